/- The program's hasTwice at texts. -/
import Derived.Test.YtcaknhoaoodbfaaGreatDoorGC27
import Derived.Test.YtcaknhoaoodbfaaGreatDoorGC9
import Derived.Test.YtcaknhoaoodbfaaGreatDoorGC11
namespace Go.Proofs.YtcaknhoaoodbfaaGreatDoor
open Go.ChangeShapes Go.WideShapes Go.ChangeAt Go.RowKit
set_option linter.unusedVariables false

set_option maxRecDepth 100000 in
set_option maxHeartbeats 1600000 in
theorem indexS_any (a : Option Addr) (n c : Nat) (l : List ByteArray) (t : ByteArray) (w : World) (h : StsAt w a n c l) :
    Calls Tryz.prog 149 #[.slice a n c, .string t] w (IdxRes n (fun i => sameT t (l.getD i ByteArray.empty)) w) := by
  have hm := h.max
  have HR := Lib.hid h.row
  unfold IdxRes sameT
  clear h
  go_enter Tryz.func149, Tryz.ntmps149
  go_wp2
  go_loopw [8] (fun i wr => ∃ k : Nat, k ≤ n ∧ i = .int .i64 k ∧ (∀ i, i < k → (t.toList == (l.getD i ByteArray.empty).toList) = false) ∧ ∃ m, wr = w.drewN m) (fun i _ => n - (intOf i).toNat)
  case atStart => exact ⟨0, Nat.zero_le _, rfl, fun i hi => by omega, 0, rfl⟩
  case round =>
    obtain ⟨k, hk, rfl, hdone, nd, rfl⟩ := hrel
    have HD := Lib.hid hdone
    clear hdone
    by_cases hlt : k < n
    · rcases HR.out with e0 | ⟨b, o, rfl, hb0, hrow⟩
      · omega
      have d0 := hrow k hlt
      clear hrow
      have HN : Hid ((t.toList == (l.getD k ByteArray.empty).toList) = false → ∀ i, i < k + 1 → (t.toList == (l.getD i ByteArray.empty).toList) = false) := Lib.hid (fun hf j hj => by
        rcases Nat.lt_or_ge j k with h1 | h1
        · exact HD.out j h1
        · obtain rfl : j = k := by omega
          exact hf)
      have HY : Hid ((t.toList == (l.getD k ByteArray.empty).toList) = true → ∃ i, i < n ∧ (t.toList == (l.getD i ByteArray.empty).toList) = true) := Lib.hid (fun hf => ⟨k, hlt, hf⟩)
      generalize l.getD k ByteArray.empty = s at d0 HN HY
      have q1 : (k : Int) < (n : Int) := by omega
      have hsym : (s.toList == t.toList) = (t.toList == s.toList) := by rw [Bool.eq_iff_iff, beq_iff_eq, beq_iff_eq]; exact ⟨Eq.symm, Eq.symm⟩
      cases hc : (t.toList == s.toList)
      · rw [hc] at hsym
        have HN2 := Lib.hid (HN.out hc)
        have hne : (s.toList != t.toList) = true := by unfold bne; rw [hsym]; rfl
        clear HN HY
        go_wp2
        go_roundw
        case rel => exact ⟨k + 1, by omega, by go_num, HN2.out, _, rfl⟩
        case measure => simp [intOf]; omega
      · rw [hc] at hsym
        have HC := Lib.hid (HY.out hc)
        clear HN HY
        go_wp2
        go_ret
        exact ⟨_, rfl, .inr ⟨by omega, HC.out⟩, below_drewN (Below.refl _ _) _⟩
    · obtain rfl : k = n := by omega
      go_wp2
      go_ret
      exact ⟨_, rfl, .inl ⟨rfl, HD.out⟩, below_drewN (Below.refl _ _) _⟩

set_option maxHeartbeats 800000 in
theorem containsS_any (a : Option Addr) (n c : Nat) (l : List ByteArray) (t : ByteArray) (w : World) (bb : Bool) (h1 : ∀ i, i < n → sameT t (l.getD i ByteArray.empty) = true → bb = true) (h0 : (∀ i, i < n → sameT t (l.getD i ByteArray.empty) = false) → bb = false) (h : StsAt w a n c l) :
    Calls Tryz.prog 179 #[.slice a n c, .string t] w fun en w' => en = .returned (.bool bb) ∧ Below w.heap.size w w' := by
  have K := Lib.hid (indexS_any a n c l t w h)
  have H1 := Lib.hid h1
  have H0 := Lib.hid h0
  unfold IdxRes at K
  clear h h0 h1
  go_enter Tryz.func179, Tryz.ntmps179
  go_wp2_with fail
  refine K.out.mono ?_
  rintro e w1 ⟨r, rfl, hr, hb1⟩
  have B1 := Lib.hid hb1
  clear hb1
  rcases hr with ⟨rfl, hr⟩ | ⟨hr0, i, hi, hr⟩
  · have hb := H0.out hr
    subst hb
    clear hr
    go_wp2
    go_ret
    exact ⟨rfl, B1.out⟩
  · have hb := H1.out i hi hr
    subst hb
    clear hr
    go_wp2
    go_ret
    exact ⟨rfl, B1.out⟩

theorem takeS_getD {l : List ByteArray} {k i : Nat} (hi : i < k) : (l.take k).getD i ByteArray.empty = l.getD i ByteArray.empty := by
  rw [List.getD_eq_getElem?_getD, List.getElem?_take, if_pos hi, ← List.getD_eq_getElem?_getD]
theorem StsAt.take {w : World} {a : Option Addr} {n c : Nat} {l : List ByteArray} (h : StsAt w a n c l) {k : Nat} (hk : k ≤ n) : StsAt w a k c (l.take k) := by
  refine ⟨by rw [List.length_take, h.len]; omega, by have := h.max; omega, ?_⟩
  rcases h.row with e | ⟨b, o, ha, hb, hr⟩
  · exact .inl (by omega)
  · refine .inr ⟨b, o, ha, hb, fun i hi => ?_⟩
    rw [takeS_getD hi]
    exact hr i (by omega)

set_option maxRecDepth 100000 in
set_option maxHeartbeats 3200000 in
theorem hasTwiceS_any (a : Option Addr) (n c : Nat) (l : List ByteArray) (w : World) (bb : Bool) (hn : n ≤ c) (hcm : c ≤ maxLen) (h1 : ∀ i k, i < n → k < i → sameT (l.getD i ByteArray.empty) (l.getD k ByteArray.empty) = true → bb = true) (h0 : (∀ i, i < n → ∀ k, k < i → sameT (l.getD i ByteArray.empty) (l.getD k ByteArray.empty) = false) → bb = false) (h : StsAt w a n c l) :
    Calls Tryz.prog 107 #[.slice a n c] w fun en w' => en = .returned (.bool bb) ∧ Below w.heap.size w w' := by
  have hm := h.max
  have HR := Lib.hid h.row
  have HA := Lib.hid h
  have H1 := Lib.hid h1
  have H0 := Lib.hid h0
  unfold maxLen at hcm
  clear h h0 h1
  go_enter Tryz.func107, Tryz.ntmps107
  go_wp2
  go_loopw [7] (fun i wr => ∃ k : Nat, k ≤ n ∧ i = .int .i64 k ∧ (∀ i, i < k → ∀ j, j < i → sameT (l.getD i ByteArray.empty) (l.getD j ByteArray.empty) = false) ∧ Below w.heap.size w wr) (fun i _ => n - (intOf i).toNat)
  case atStart => exact ⟨0, Nat.zero_le _, rfl, fun i hi => by omega, Below.refl _ _⟩
  case round =>
    obtain ⟨k, hk, rfl, hdone, hb⟩ := hrel
    have HD := Lib.hid hdone
    have HB := Lib.hid hb
    clear hdone hb
    by_cases hlt : k < n
    · rcases HR.out with e0 | ⟨b, o, rfl, hb0, hrow⟩
      · omega
      have d0 := (HB.out.cell (p := ⟨b, o + k, none⟩) hb0).trans (hrow k hlt)
      clear hrow
      obtain ⟨q, hq⟩ : ∃ q : Bool, (∀ j, j < k → sameT (l.getD k ByteArray.empty) ((l.take k).getD j ByteArray.empty) = true → q = true) ∧ ((∀ j, j < k → sameT (l.getD k ByteArray.empty) ((l.take k).getD j ByteArray.empty) = false) → q = false) := by
        refine ⟨(List.range k).any fun j => sameT (l.getD k ByteArray.empty) ((l.take k).getD j ByteArray.empty), fun j hj he => ?_, fun he => ?_⟩
        · rw [List.any_eq_true]
          exact ⟨j, List.mem_range.2 hj, he⟩
        · rw [List.any_eq_false]
          intro j hj
          rw [he j (List.mem_range.1 hj)]
          decide
      have HQ : Hid (∃ q' : Bool, q' = q ∧ ((q' = true → ∃ j, j < k ∧ sameT (l.getD k ByteArray.empty) (l.getD j ByteArray.empty) = true) ∧ (q' = false → ∀ j, j < k → sameT (l.getD k ByteArray.empty) (l.getD j ByteArray.empty) = false))) := Lib.hid (by
        refine ⟨q, rfl, fun e => ?_, fun e j hj => ?_⟩
        · by_cases hex : ∃ j, j < k ∧ sameT (l.getD k ByteArray.empty) (l.getD j ByteArray.empty) = true
          · exact hex
          · have := hq.2 (fun j hj => by
              rw [takeS_getD hj]
              cases hh : sameT (l.getD k ByteArray.empty) (l.getD j ByteArray.empty)
              · rfl
              · exact absurd ⟨j, hj, hh⟩ hex)
            rw [e] at this
            cases this
        · cases hh : sameT (l.getD k ByteArray.empty) (l.getD j ByteArray.empty)
          · rfl
          · have := hq.1 j hj (by rw [takeS_getD hj]; exact hh)
            rw [e] at this
            cases this)
      have K := Lib.hid (fun W (hb : Below w.heap.size w W) => containsS_any (some ⟨b, o, none⟩) k c (l.take k) (l.getD k ByteArray.empty) W q hq.1 hq.2 ((HA.out.take hk).below hb))
      clear hq
      generalize hx : l.getD k ByteArray.empty = x at d0 K
      have HX := Lib.hid hx
      clear hx
      have q1 : (k : Int) < (n : Int) := by omega
      have q2 : (k : Int) ≤ (c : Int) := by omega
      have hS0 : Below w.heap.size w wr.drew := HB.out.drew
      go_wp2_with fail
      refine (K.out _ HB.out).mono ?_
      rintro e w' ⟨rfl, hbr⟩
      have hBf : Below w.heap.size w w' := below_then HB.out hbr
      clear hbr
      have HBF := Lib.hid hBf
      clear hBf hS0
      obtain ⟨q', rfl, hqt, hqf⟩ := HQ.out
      have HQT := Lib.hid hqt
      have HQF := Lib.hid hqf
      clear hqt hqf HQ K
      cases q'
      · have HDN := Lib.hid (HQF.out (by simp))
        go_wp2
        go_roundw
        case rel =>
          refine ⟨k + 1, by omega, by go_num, fun i hi j hj => ?_, HBF.out⟩
          rcases Nat.lt_or_ge i k with h1 | h1
          · exact HD.out i h1 j hj
          · obtain rfl : i = k := by omega
            exact HDN.out j hj
        case measure => simp [intOf]; omega
      · obtain ⟨j, hj, he⟩ := HQT.out (by simp)
        have hbb := H1.out k j hlt hj he
        subst hbb
        clear he
        go_wp2
        go_ret
        exact ⟨rfl, HBF.out⟩
    · obtain rfl : k = n := by omega
      have hb := H0.out HD.out
      subst hb
      go_wp2
      go_ret
      exact ⟨rfl, HB.out⟩
end Go.Proofs.YtcaknhoaoodbfaaGreatDoor

/- The program's withoutNames. -/
namespace Go.Proofs.YtcaknhoaoodbfaaGreatDoor
open Go.ChangeShapes Go.WideShapes Go.ChangeAt Go.RowKit
set_option linter.unusedVariables false

def bare (x : Ident) : Ident := ⟨x.cat, x.kind, x.lang, ByteArray.empty⟩
def bareTo (l : List Ident) (k : Nat) : List Ident := (l.take k).map bare ++ l.drop k
theorem idFlat_cons (x : Ident) (l : List Ident) : idFlat (x :: l) = idCells x ++ idFlat l := by simp [idFlat]
theorem idFlat_set : ∀ (l : List Ident) (k : Nat), k < l.length → (idFlat l).set (k * 4 + 3) (.string ByteArray.empty) = idFlat (l.set k (bare (l.getD k dId)))
  | [], k, h => by cases h
  | x :: l, 0, h => by
    rw [idFlat_cons, List.set_cons_zero, idFlat_cons]
    rfl
  | x :: l, k + 1, h => by
    have hl : (idCells x).length = 4 := rfl
    rw [idFlat_cons, List.set_cons_succ, idFlat_cons, List.set_append_right _ _ (by omega), hl, show (k + 1) * 4 + 3 - 4 = k * 4 + 3 by omega, idFlat_set l k (by simpa using h)]
    rfl
theorem bareTo_length (l : List Ident) (k : Nat) (h : k ≤ l.length) : (bareTo l k).length = l.length := by simp [bareTo]; omega
theorem bareTo_succ (l : List Ident) (k : Nat) (h : k < l.length) : (bareTo l k).set k (bare ((bareTo l k).getD k dId)) = bareTo l (k + 1) := by
  have h1 : ((l.take k).map bare).length = k := by simp; omega
  have h2 : (bareTo l k).getD k dId = l[k] := by
    unfold bareTo
    rw [List.getD_eq_getElem?_getD, List.getElem?_append_right (by omega), h1, Nat.sub_self, List.drop_eq_getElem_cons h]
    rfl
  rw [h2]
  unfold bareTo
  rw [List.set_append_right _ _ (by omega), h1, Nat.sub_self, List.drop_eq_getElem_cons h, List.set_cons_zero, List.take_succ_eq_append_getElem h, List.map_append]
  simp
theorem bareTo_all (l : List Ident) : bareTo l l.length = l.map bare := by simp [bareTo]
theorem bareTo_zero (l : List Ident) : bareTo l 0 = l := by simp [bareTo]

set_option maxRecDepth 100000 in
set_option maxHeartbeats 1600000 in
theorem withoutNames_any (a : Option Addr) (n c : Nat) (l : List Ident) (w : World) (hn : n ≤ 1048576) (hnil : a = none → c = 0) (h : IdsAt w a n c l) :
    Calls Tryz.prog 106 #[.slice a n c] w (OwnsIds w (l.map bare)) := by
  have K := Lib.hid (cloneI_any a n c l w hn hnil h)
  have HL := Lib.hid h.len
  unfold OwnsIds at K ⊢
  clear hnil h
  go_enter Tryz.func106, Tryz.ntmps106
  go_wp2_with fail
  refine K.out.mono ?_
  rintro e w1 ⟨a1, n1, c1, rfl, ho1, hb1⟩
  have hn1 : n1 = n := by
    have h1 : (idFlat l).length = n1 * 4 := ho1.1
    rw [idFlat_length, HL.out] at h1
    omega
  subst hn1
  have HO1 := Lib.hid ho1
  have HB1 := Lib.hid hb1
  clear ho1 hb1 K
  go_wp2
  go_loopw [9] (fun i wr => ∃ k : Nat, k ≤ n1 ∧ i = .int .i64 k ∧ wr.ownsRow w.heap.size 54 4 (.slice a1 n1 c1) n1 (idFlat (bareTo l k)) ∧ Below w.heap.size w wr) (fun i _ => n1 - (intOf i).toNat)
  case atStart => exact ⟨0, Nat.zero_le _, rfl, by rw [bareTo_zero]; exact HO1.out, HB1.out⟩
  case round =>
    clear HO1 HB1
    obtain ⟨k, hk, rfl, ho, hb⟩ := hrel
    have HB := Lib.hid hb
    by_cases hlt : k < n1
    · obtain ⟨g, rfl⟩ : ∃ g, a1 = some ⟨g, 0, none⟩ := by
        rcases ho.2 with ⟨hv, h0⟩ | ⟨g, cap, cur, hv, _⟩
        · omega
        · simp only [Value.slice.injEq] at hv
          exact ⟨g, hv.1⟩
      have hlb := bareTo_length l k (by have := HL.out; omega)
      have c0 := ho.cellAt (k * 4 + 3) (by omega)
      rw [idFlat_get _ k 3 (by decide), List.getElem?_eq_getElem (by have := HL.out; omega)] at c0
      simp only [Option.bind_some, idCells] at c0
      have c1 : wr.cell? ⟨g, k * 4 + 3, none⟩ = some (.string ((bareTo l k)[k]'(by have := HL.out; omega)).name) := c0
      have c3 := ho.frozenAt (k * 4 + 3)
      have hst := ho.stored (k * 4 + 3) (.string ByteArray.empty)
      rw [idFlat_set _ k (by have := HL.out; omega), bareTo_succ l k (by have := HL.out; omega)] at hst
      have HST := Lib.hid hst.1
      have hgb := (ho.lt g rfl).1
      clear ho hb hst c0
      generalize ((bareTo l k)[k]'(by have := HL.out; omega)).name = nm at c1
      have q1 : (k : Int) < (n1 : Int) := by omega
      go_wp2
      go_roundw
      case rel => exact ⟨k + 1, by omega, by go_num, HST.out, HB.out.setCell hgb _⟩
      case measure => simp [intOf]; omega
    · obtain rfl : k = n1 := by omega
      have HO := Lib.hid ho
      clear ho hb
      go_wp2
      go_ret
      exact ⟨_, _, _, rfl, by have := HO.out; rw [← HL.out, bareTo_all, HL.out] at this; exact this, HB.out⟩
end Go.Proofs.YtcaknhoaoodbfaaGreatDoor
