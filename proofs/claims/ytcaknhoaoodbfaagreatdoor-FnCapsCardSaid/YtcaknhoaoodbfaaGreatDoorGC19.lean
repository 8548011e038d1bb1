/- spec.l9Twice. -/
import Derived.Test.YtcaknhoaoodbfaaGreatDoorGC9
namespace Go.Proofs.YtcaknhoaoodbfaaGreatDoor
open Go.ChangeShapes Go.WideShapes Go.ChangeAt Go.RowKit
set_option linter.unusedVariables false

/-- block p holds a disco -/
structure DisVar (w : World) (p : Nat) (a1 : Option Addr) (n1 c1 : Nat) (a2 : Option Addr) (n2 c2 : Nat) (d : Dis) : Prop where
  lt : p < w.heap.size
  v0 : w.cell? ⟨p, 0, none⟩ = some (.slice a1 n1 c1)
  v1 : w.cell? ⟨p, 1, none⟩ = some (.slice a2 n2 c2)
  at_ : DisAt w a1 n1 c1 a2 n2 c2 d
theorem DisVar.below {w w' : World} {p : Nat} {a1 a2 : Option Addr} {n1 c1 n2 c2 : Nat} {d : Dis} (h : DisVar w p a1 n1 c1 a2 n2 c2 d) (hb : Below w.heap.size w w') : DisVar w' p a1 n1 c1 a2 n2 c2 d :=
  ⟨Nat.lt_of_lt_of_le h.lt hb.size, (hb.cell (by exact h.lt)).trans h.v0, (hb.cell (by exact h.lt)).trans h.v1, h.at_.below hb⟩

set_option maxRecDepth 100000 in
set_option maxHeartbeats 6400000 in
theorem l9Twice_any (p : Nat) (a1 a2 : Option Addr) (n1 c1 n2 c2 : Nat) (d : Dis) (w : World) (h : DisVar w p a1 n1 c1 a2 n2 c2 d) :
    Calls Tryz.prog 109 #[.pointer (some ⟨p, 0, none⟩)] w fun en w' => en = .returned (.bool (twiceI d.ids || twiceS d.feats)) ∧ ∃ n, w' = w.drewN n := by
  obtain ⟨bb, hbb⟩ : ∃ bb, (twiceI d.ids || twiceS d.feats) = bb := ⟨_, rfl⟩
  have H1 : Hid (∀ i k, i < n1 → k < i → sameId (d.ids.getD i dId) (d.ids.getD k dId) = true → bb = true) := Lib.hid (fun i k hi hk hs => by
    rw [← hbb, Bool.or_eq_true]
    exact .inl (twice_at (by rw [h.at_.ids.len]; exact hi) hk hs))
  have H2 : Hid (∀ i k, i < n2 → k < i → sameT (d.feats.getD i ByteArray.empty) (d.feats.getD k ByteArray.empty) = true → bb = true) := Lib.hid (fun i k hi hk hs => by
    rw [← hbb, Bool.or_eq_true]
    exact .inr (twice_at (by rw [h.at_.feats.len]; exact hi) hk hs))
  have H0 : Hid ((∀ i, i < n1 → ∀ k, k < i → sameId (d.ids.getD i dId) (d.ids.getD k dId) = false) → (∀ i, i < n2 → ∀ k, k < i → sameT (d.feats.getD i ByteArray.empty) (d.feats.getD k ByteArray.empty) = false) → bb = false) := Lib.hid (fun h1 h2 => by
    rw [← hbb, Bool.or_eq_false_iff]
    exact ⟨twice_not (by rw [h.at_.ids.len]; exact h1), twice_not (by rw [h.at_.feats.len]; exact h2)⟩)
  rw [hbb]
  clear hbb
  have v0 := h.v0
  have v1 := h.v1
  have hm1 := h.at_.ids.max
  have hm2 := h.at_.feats.max
  have HR1 := Lib.hid h.at_.ids.row
  have HR2 := Lib.hid h.at_.feats.row
  clear h
  go_enter Tryz.func109, Tryz.ntmps109
  go_wp2
  go_loopw [14] (fun i wr => ∃ k : Nat, k ≤ n1 ∧ i = .int .i64 k ∧ (∀ i, i < k → ∀ j, j < i → sameId (d.ids.getD i dId) (d.ids.getD j dId) = false) ∧ ∃ n, wr = w.drewN n) (fun i _ => n1 - (intOf i).toNat)
  case atStart => exact ⟨0, Nat.zero_le _, rfl, fun i hi => by omega, 0, rfl⟩
  case round =>
    obtain ⟨k, hk, rfl, hdone, nd, rfl⟩ := hrel
    have HD := Lib.hid hdone
    clear hdone
    by_cases hlt : k < n1
    · rcases HR1.out with e0 | ⟨b, o, rfl, hrow⟩
      · omega
      have hi := hrow k hlt
      have d0 := hi.c0
      have d1 := hi.c1
      have d2 := hi.c2
      have HROW := Lib.hid hrow
      clear hi hrow
      generalize hx : d.ids.getD k dId = x at d0 d1 d2
      have HX := Lib.hid hx
      clear hx
      go_wp2
      go_loopw [4] (fun j wr => ∃ m : Nat, m ≤ k ∧ j = .int .i64 m ∧ (∀ j, j < m → sameId x (d.ids.getD j dId) = false) ∧ ∃ n, wr = w.drewN n) (fun j _ => k - (intOf j).toNat)
      case atStart => exact ⟨0, Nat.zero_le _, rfl, fun j hj => by omega, _, rfl⟩
      case round =>
        obtain ⟨m, hm, rfl, hin, nd2, rfl⟩ := hrel
        have HIN := Lib.hid hin
        clear hin
        by_cases hlm : m < k
        · have hj := HROW.out m (by omega)
          have e0 := hj.c0
          have e1 := hj.c1
          have e2 := hj.c2
          clear hj
          have HS : Hid (∀ y, d.ids.getD m dId = y → sameId x y = true → bb = true) := Lib.hid (fun y hy hs => H1.out k m hlt hlm (by rw [HX.out, hy]; exact hs))
          generalize hy : d.ids.getD m dId = y at e0 e1 e2
          have HY := Lib.hid hy
          clear hy
          have HS2 := Lib.hid (HS.out y HY.out)
          obtain ⟨xs, xt, xu, xv⟩ := x
          obtain ⟨ys, yt, yu, yv⟩ := y
          unfold sameId at HS2
          dsimp only at d0 d1 d2 e0 e1 e2 HS2
          have HN : Hid (sameId ⟨xs, xt, xu, xv⟩ ⟨ys, yt, yu, yv⟩ = false → ∀ j, j < m + 1 → sameId ⟨xs, xt, xu, xv⟩ (d.ids.getD j dId) = false) := Lib.hid (fun hf j hj => by
            rcases Nat.lt_or_ge j m with h1 | h1
            · exact HIN.out j h1
            · obtain rfl : j = m := by omega
              rw [HY.out]
              exact hf)
          unfold sameId at HN
          dsimp only at HN
          have q1 : (m : Int) < (k : Int) := by omega
          have q2 : (k : Int) < (n1 : Int) := by omega
          have q3 : (m : Int) < (n1 : Int) := by omega
          cases hc1 : (xs.toList == ys.toList)
          · go_wp2_with fail
            go_quiet (fail)
            go_wp2
            go_roundw
            case rel => exact ⟨m + 1, by omega, by go_num, HN.out (by rw [hc1]; rfl), _, rfl⟩
            case measure => simp [intOf]; omega
          cases hc2 : (xt.toList == yt.toList)
          · go_wp2_with fail
            go_quiet (fail)
            go_wp2
            go_roundw
            case rel => exact ⟨m + 1, by omega, by go_num, HN.out (by rw [hc1, hc2]; rfl), _, rfl⟩
            case measure => simp [intOf]; omega
          cases hc3 : (xu.toList == yu.toList)
          · go_wp2_with fail
            go_quiet (fail)
            go_wp2
            go_roundw
            case rel => exact ⟨m + 1, by omega, by go_num, HN.out (by rw [hc1, hc2, hc3]; rfl), _, rfl⟩
            case measure => simp [intOf]; omega
          · have hb := HS2.out (by rw [hc1, hc2, hc3]; rfl)
            subst hb
            go_wp2_with fail
            go_quiet (fail)
            go_wp2
            go_ret
            exact ⟨rfl, _, World.drewN_drewN _ _ _⟩
        · obtain rfl : m = k := by omega
          go_wp2
          go_roundw
          case rel =>
            refine ⟨m + 1, by omega, by go_num, fun i hi j hj => ?_, _, rfl⟩
            rcases Nat.lt_or_ge i m with h1 | h1
            · exact HD.out i h1 j hj
            · obtain rfl : i = m := by omega
              rw [HX.out]
              exact HIN.out j hj
          case measure => simp [intOf]; omega
    · obtain rfl : k = n1 := by omega
      go_wp2
      go_loopw [71] (fun i wr => ∃ k : Nat, k ≤ n2 ∧ i = .int .i64 k ∧ (∀ i, i < k → ∀ j, j < i → sameT (d.feats.getD i ByteArray.empty) (d.feats.getD j ByteArray.empty) = false) ∧ ∃ n, wr = w.drewN n) (fun i _ => n2 - (intOf i).toNat)
      case atStart => exact ⟨0, Nat.zero_le _, rfl, fun i hi => by omega, _, rfl⟩
      case round =>
        obtain ⟨k2, hk2, rfl, hdone2, nd2, rfl⟩ := hrel
        have HD2 := Lib.hid hdone2
        clear hdone2
        by_cases hlt2 : k2 < n2
        · rcases HR2.out with e0 | ⟨b, o, rfl, hb0, hrow⟩
          · omega
          have d0 := hrow k2 hlt2
          have HROW := Lib.hid hrow
          clear hrow
          generalize hx : d.feats.getD k2 ByteArray.empty = x at d0
          have HX := Lib.hid hx
          clear hx
          go_wp2
          go_loopw [8] (fun j wr => ∃ m : Nat, m ≤ k2 ∧ j = .int .i64 m ∧ (∀ j, j < m → sameT x (d.feats.getD j ByteArray.empty) = false) ∧ ∃ n, wr = w.drewN n) (fun j _ => k2 - (intOf j).toNat)
          case atStart => exact ⟨0, Nat.zero_le _, rfl, fun j hj => by omega, _, rfl⟩
          case round =>
            obtain ⟨m, hm, rfl, hin, nd3, rfl⟩ := hrel
            have HIN := Lib.hid hin
            clear hin
            by_cases hlm : m < k2
            · have e0 := HROW.out m (by omega)
              have HS : Hid (∀ y, d.feats.getD m ByteArray.empty = y → sameT x y = true → bb = true) := Lib.hid (fun y hy hs => H2.out k2 m hlt2 hlm (by rw [HX.out, hy]; exact hs))
              generalize hy : d.feats.getD m ByteArray.empty = y at e0
              have HY := Lib.hid hy
              clear hy
              have HS2 := Lib.hid (HS.out y HY.out)
              unfold sameT at HS2
              have q1 : (m : Int) < (k2 : Int) := by omega
              have q2 : (k2 : Int) < (n2 : Int) := by omega
              have q3 : (m : Int) < (n2 : Int) := by omega
              have HN : Hid (sameT x y = false → ∀ j, j < m + 1 → sameT x (d.feats.getD j ByteArray.empty) = false) := Lib.hid (fun hf j hj => by
                rcases Nat.lt_or_ge j m with h1 | h1
                · exact HIN.out j h1
                · obtain rfl : j = m := by omega
                  rw [HY.out]
                  exact hf)
              cases hc1 : (x.toList == y.toList)
              · go_wp2_with fail
                go_quiet (fail)
                go_wp2
                go_roundw
                case rel => exact ⟨m + 1, by omega, by go_num, HN.out hc1, _, rfl⟩
                case measure => simp [intOf]; omega
              · have hb := HS2.out hc1
                subst hb
                go_wp2_with fail
                go_quiet (fail)
                go_wp2
                go_ret
                exact ⟨rfl, _, World.drewN_drewN _ _ _⟩
            · obtain rfl : m = k2 := by omega
              go_wp2
              go_roundw
              case rel =>
                refine ⟨m + 1, by omega, by go_num, fun i hi j hj => ?_, _, rfl⟩
                rcases Nat.lt_or_ge i m with h1 | h1
                · exact HD2.out i h1 j hj
                · obtain rfl : i = m := by omega
                  rw [HX.out]
                  exact HIN.out j hj
              case measure => simp [intOf]; omega
        · obtain rfl : k2 = n2 := by omega
          have hb := H0.out HD.out HD2.out
          subst hb
          go_wp2
          go_ret
          exact ⟨rfl, _, rfl⟩
end Go.Proofs.YtcaknhoaoodbfaaGreatDoor
