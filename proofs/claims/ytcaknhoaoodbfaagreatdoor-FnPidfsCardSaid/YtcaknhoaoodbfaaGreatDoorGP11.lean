/- The cells of a row of items of one's own. -/
import Derived.Test.YtcaknhoaoodbfaaGreatDoorGP1
import Derived.Test.YtcaknhoaoodbfaaGreatDoorGP7
import Derived.Test.YtcaknhoaoodbfaaGreatDoorGP10
import Derived.Deep.DeepCutAuto
import Derived.Test.YtcaknhoaoodbfaaGreatDoorGP3
import Derived.Test.YtcaknhoaoodbfaaGreatDoorGP0
import Derived.Test.YtcaknhoaoodbfaaGreatDoorGP2
import Derived.Deep.RegionHeld3
namespace Go.Proofs.YtcaknhoaoodbfaaGreatDoor
open Go.ChangeShapes Go.WideShapes Go.ChangeAt Go.RowKit
set_option linter.unusedVariables false
theorem flatI_one (l : List It) (A : Nat → Option Addr) (N C : Nat → Nat) : ∀ u ∈ flatI l A N C, u.oneCell' = true := by
  intro u hu
  unfold flatI at hu
  rw [List.mem_map] at hu
  obtain ⟨j, _, rfl⟩ := hu
  unfold cellI
  split
  · rfl
  · split
    · rfl
    · split
      · rfl
      · split <;> rfl
theorem GrowIts.cellAt {w : World} {B g n c : Nat} {l : List It} {A : Nat → Option Addr} {N C : Nat → Nat} (h : GrowIts w B (.slice (some ⟨g, 0, none⟩) n c) n l A N C) (i q : Nat) (hi : i < n) (hq : q < 5) : w.cell? ⟨g, i * 5 + q, none⟩ = some (if q = 0 then .int .i64 (l.getD i dIt).depth else if q = 1 then .string (l.getD i dIt).text else if q = 2 then .string (l.getD i dIt).space else if q = 3 then .string (l.getD i dIt).name else .slice (A i) (N i) (C i)) := by
  have hlen := h.len
  rw [h.row.cellAt _ (by omega), flatI_get _ _ _ _ _ (by omega), cellI_five i q hq]
def MoreDrawn (w : World) (b : Nat) (a : Option Addr) (n c : Nat) (xs : List Int) (k : Nat) (en : Ending) (w' : World) : Prop :=
  ∃ (x : Addr) (m q : Nat) (l : List It) (A : Nat → Option Addr) (N C : Nat → Nat) (k' : Nat), en = .returned (.slice (some x) m q) ∧ GrowIts w' w.heap.size (.slice (some x) m q) m l A N C ∧ m ≤ 8 ∧ (∀ i, DrawnIt (l.getD i dIt)) ∧ k' ≤ k + 2100 ∧ Src w' b a n c xs k' ∧ w.grownBy w' (some b)
set_option maxRecDepth 100000 in
set_option maxHeartbeats 6400000 in
theorem l7More_any (b : Nat) (a : Option Addr) (n c : Nat) (xs : List Int) (k : Nat) (hk : k + 6000 < 1000000) (w : World) (h : Src w b a n c xs k) :
    Calls Tryz.prog 112 #[.pointer (some ⟨b, 0, none⟩)] w (MoreDrawn w b a n c xs k) := by
  obtain ⟨i0, hi, hz0, hi1, hz2⟩ := info_parts itemInfo
  unfold MoreDrawn
  have hblt := h.lt
  have KT := Lib.hid (fun (k : Nat) (hk : k + 2000 < 1000000) (W : World) (h : Src W b a n c xs k) => l4Draw_any b a n c xs k 4 (by decide) (by decide) hk W h)
  unfold TreeDrawn at KT
  simp only [show ((4 : Nat) : Int) = 4 from rfl] at KT
  have KN := l1Next_any b a n c xs k 3 (by decide) (by decide) (by omega)
  unfold NextRes at KN
  have HS := Lib.hid (h.below (below1 w (.cells #[] 67)))
  have HG : Hid (GrowIts (w.alloc (.cells #[] 67)) w.heap.size (.slice (some ⟨w.heap.size, 0, none⟩) 0 0) 0 [] (fun _ => none) (fun _ => 0) (fun _ => 0)) := Lib.hid ⟨lit_item w, fun i hi => by simp at hi, fun i hi => by simp at hi, fun i j hi => by simp at hi⟩
  have HE := Lib.hid (grown_of_below (below1 w (.cells #[] 67)) (some b))
  have hD0 : ∀ i, DrawnIt (([] : List It).getD i dIt) := fun i => by simpa using dIt_drawn
  have HD := Lib.hid hD0
  clear h hD0
  go_enter Tryz.func112, Tryz.ntmps112
  go_wp2_with fail
  refine (KN _ HS.out).mono ?_
  rintro e w1 ⟨r0, rfl, hr0, hs1, hg1⟩
  have hr0 := hr0 (by decide)
  have S1 := Lib.hid hs1
  have G1 := Lib.hid (HG.out.onlyP (Only.grown hg1) (fun i h1 _ h2 => by simp only [Option.some.injEq] at h2; omega))
  have E1 := Lib.hid (grown_trans_row HE.out hg1)
  clear hs1 hg1 HS HG HE KN
  go_wp2
  go_loopw [3, 4] (fun v i wr => ∃ (j m q : Nat) (x : Addr) (l : List It) (A : Nat → Option Addr) (N C : Nat → Nat) (k' : Nat), v = .slice (some x) m q ∧ i = .int .i64 j ∧ m + 4 * j ≤ 8 ∧ k' + 1000 * j ≤ k + 2001 ∧ Hid (GrowIts wr w.heap.size (.slice (some x) m q) m l A N C) ∧ Hid (∀ i, DrawnIt (l.getD i dIt)) ∧ Hid (Src wr b a n c xs k') ∧ Hid (w.grownBy wr (some b))) (fun _ i _ => (intOf i).toNat)
  case atStart => exact ⟨r0, 0, 0, _, [], _, _, _, k + 1, rfl, rfl, by omega, by omega, G1, HD, S1, E1⟩
  case round =>
    obtain ⟨j, m, q, x, l, A, N, C, k', rfl, rfl, hmj, hkj, G0, D0, S0, E0⟩ := hrel
    clear G1 HD S1 E1
    obtain ⟨wo, hwo⟩ : ∃ wo, wo = wr := ⟨_, rfl⟩
    subst hwo
    rcases j with _ | j
    · go_wp2
      go_ret
      exact ⟨x, m, q, l, A, N, C, k', rfl, G0.out, by omega, D0.out, by omega, S0.out, E0.out⟩
    · have qj : (0 : Int) < ((j + 1 : Nat) : Int) := by omega
      have hws : w.heap.size ≤ wo.heap.size := E0.out.size
      go_wp2_with fail
      refine (KT.out k' (by omega) _ S0.out).mono ?_
      rintro e w1 ⟨xt, mt, qt, lt, At, Nt, Ct, k1, rfl, gt, hm1, hm4, hDt, hk1, hs1, hg1⟩
      obtain ⟨bt, cap, cur, hv, hbt, _⟩ := gt.row.2.resolve_left (by omega)
      simp only [Value.slice.injEq] at hv
      obtain ⟨rfl, _, rfl⟩ := hv
      have G1 := Lib.hid gt.g
      have D1 := Lib.hid hDt
      have S1 := Lib.hid hs1
      have E1 := Lib.hid (grown_trans_row E0.out hg1)
      have O1 : Hid (Only (fun i => i = b ∨ wo.heap.size ≤ i) wo w1) := Lib.hid ((Only.grown hg1).mono fun i e => .inl (by simpa using e))
      clear gt hDt hs1 hg1
      go_wp2
      go_loopw [19] (fun v wq => ∃ (r : Nat) (l2 : List It), v = .int .i64 r ∧ r ≤ mt ∧ Hid (GrowIts wq wo.heap.size (.slice (some ⟨bt, 0, none⟩) mt qt) mt l2 At Nt Ct) ∧ Hid (∀ i, DrawnIt (l2.getD i dIt)) ∧ Hid (Src wq b a n c xs k1) ∧ Hid (w.grownBy wq (some b)) ∧ Hid (Only (fun i => i = b ∨ wo.heap.size ≤ i) wo wq)) (fun v _ => mt - (intOf v).toNat)
      case atStart => exact ⟨0, lt, rfl, Nat.zero_le _, G1, D1, S1, E1, O1⟩
      case round =>
        obtain ⟨r, l2, rfl, hr, G2, D2, S2, E2, O2⟩ := hrel
        clear G1 D1 S1 E1 O1
        by_cases hlt : r < mt
        · have p0 : wr.cell? ⟨bt, r * 5, none⟩ = some (.int .i64 (l2.getD r dIt).depth) := G2.out.cellAt r 0 hlt (by decide)
          have f0 : wr.frozen? ⟨bt, r * 5, none⟩ = false := G2.out.row.frozenAt (r * 5 + 0)
          have hl2 := G2.out.len
          have hdr := D2.out r
          obtain ⟨⟨yd, yt, ys, yn, ya⟩, hy⟩ : ∃ y, l2.getD r dIt = y := ⟨_, rfl⟩
          rw [hy] at hdr p0
          dsimp only at p0
          have hmi : 0 ≤ minI yd 5 ∧ minI yd 5 ≤ 6 := by have := hdr.depth; dsimp only at this; unfold minI; split <;> omega
          have KM := l1Min_any yd 5 wr
          have G3 := Lib.hid (G2.out.put (r := r) (f := 0) (y := ⟨minI yd 5, yt, ys, yn, ya⟩) (u := .int .i64 (minI yd 5)) hlt (by decide) rfl (.inl rfl) (.inr (by rw [hy])) (.inr (by rw [hy])) (.inr (by rw [hy])) (by rw [hy]))
          have D3 := Lib.hid (drawn_set D2.out (r := r) (y := ⟨minI yd 5, yt, ys, yn, ya⟩) ⟨hmi, hdr.sizes, hdr.few, hdr.short⟩)
          have S3 := Lib.hid (S2.out.grown (grown_set wr ⟨bt, r * 5 + 0, none⟩ (.int .i64 (minI yd 5))) (fun j e => by cases e; show b < bt; omega))
          have E3 := Lib.hid (grown_mix E2.out (grown_set wr ⟨bt, r * 5 + 0, none⟩ (.int .i64 (minI yd 5))) (fun g e => by cases e; show _ ≤ bt; omega))
          have O3 := Lib.hid (O2.out.trans (Only.set wr ⟨bt, r * 5 + 0, none⟩ (.int .i64 (minI yd 5)) (.inr hbt)))
          clear hdr hy hl2 G2 D2 S2 E2 O2
          have q0 : (r : Int) < (mt : Int) := by omega
          go_wp2_with fail
          refine KM.mono ?_
          rintro e w2 ⟨rfl, rfl⟩
          go_wp2
          go_roundw
          case rel => exact ⟨r + 1, _, by go_num, by omega, G3, D3, S3, E3, O3⟩
          case measure => simp [intOf]; omega
        · obtain rfl : r = mt := by omega
          have p2 : wr.cell? ⟨bt, 2, none⟩ = some (.string (l2.getD 0 dIt).space) := G2.out.cellAt 0 2 (by omega) (by decide)
          have f2 : wr.frozen? ⟨bt, 2, none⟩ = false := G2.out.row.frozenAt (0 * 5 + 2)
          have hdr := D2.out 0
          obtain ⟨⟨yd, yt, ys, yn, ya⟩, hy⟩ : ∃ y, l2.getD 0 dIt = y := ⟨_, rfl⟩
          rw [hy] at hdr p2
          dsimp only at p2
          have q0 : (0 : Int) < (r : Int) := by omega
          have KR : Hid (∀ (W : World), Only (fun i => i = b ∨ wo.heap.size ≤ i) wo W → GrowIts W w.heap.size (.slice (some x) m q) m l A N C) := Lib.hid (fun W ho => G0.out.onlyP ho (fun i h1 h2 hp => by rcases hp with hp | hp <;> omega))
          have KA : Hid (∀ W, GrowIts W w.heap.size (.slice (some x) m q) m l A N C → Calls Tryz.prog 63 #[.slice (some x) m q, .int .i64 0] W (ItsGrowS W (movedTo l 0 m 0))) := Lib.hid (fun W hg => specAllG_any w.heap.size W.heap.size (some x) m q 0 l W (fun i _ => by have := (D0.out i).depth; omega) (by decide) (fun i _ => by have := (D0.out i).few; omega) (hg.own (by omega) (drawn_sizes D0.out m)))
          unfold ItsGrowS at KA
          by_cases hcs : ys.toList = [106, 97, 98, 98, 101, 114, 58, 99, 108, 105, 101, 110, 116]
          · have G3 := Lib.hid (G2.out.put (r := 0) (f := 2) (y := ⟨yd, yt, ⟨#[117, 114, 110, 58, 122]⟩, yn, ya⟩) (u := .string ⟨#[117, 114, 110, 58, 122]⟩) (by omega) (by decide) rfl (.inr (by rw [hy])) (.inr (by rw [hy])) (.inl rfl) (.inr (by rw [hy])) (by rw [hy]))
            have D3 := Lib.hid (drawn_set D2.out (r := 0) (y := ⟨yd, yt, ⟨#[117, 114, 110, 58, 122]⟩, yn, ya⟩) ⟨hdr.depth, ⟨hdr.sizes.1, by show (5 : Nat) ≤ 60; decide, hdr.sizes.2.2⟩, hdr.few, hdr.short⟩)
            have S3 := Lib.hid (S2.out.grown (grown_set wr ⟨bt, 0 * 5 + 2, none⟩ (.string ⟨#[117, 114, 110, 58, 122]⟩)) (fun j e => by cases e; show b < bt; omega))
            have E3 := Lib.hid (grown_mix E2.out (grown_set wr ⟨bt, 0 * 5 + 2, none⟩ (.string ⟨#[117, 114, 110, 58, 122]⟩)) (fun g e => by cases e; show _ ≤ bt; omega))
            have O3 := Lib.hid (O2.out.trans (Only.set wr ⟨bt, 0 * 5 + 2, none⟩ (.string ⟨#[117, 114, 110, 58, 122]⟩) (.inr hbt)))
            clear hdr hy G2 D2 S2 E2 O2
            go_upto_region 13 with fail
            have HL3 := Lib.hid G3.out.len
            have GO := KR.out _ O3.out
            have KA3 := KA.out _ GO
            have hzW := O3.out.size
            generalize hl3 : l2.set 0 ⟨yd, yt, ⟨#[117, 114, 110, 58, 122]⟩, yn, ya⟩ = l3 at *
            clear hl3
            have hp2 : World.setCell wr ⟨bt, 0 * 5 + 2, none⟩ (.string ⟨#[117, 114, 110, 58, 122]⟩) = wr.setCell ⟨bt, 2, none⟩ (.string ⟨#[117, 114, 110, 58, 122]⟩) := rfl
            rw [hp2] at G3 S3 E3 O3 KA3 hzW GO
            generalize wr.setCell ⟨bt, 2, none⟩ (.string ⟨#[117, 114, 110, 58, 122]⟩) = W3 at *
            clear KA GO
            go_wp2_with fail
            refine KA3.mono ?_
            clear KA3
            rintro e w4 ⟨x4, n4, c4, A4, N4, C4, rfl, hg4, hb4⟩
            obtain rfl : m = n4 := by have := hg4.len; rw [movedTo_length] at this; omega
            have GJ := Lib.hid hg4
            have T4 := Lib.hid (G3.out.below hb4)
            have DJ := Lib.hid (drawn_append (drawn_moved D0.out m) D3.out)
            have S4 := Lib.hid (S3.out.below hb4)
            have E4 := Lib.hid (step_below E3.out hb4)
            have O4 := Lib.hid (O3.out.trans (Only.below hb4))
            have AT4 : Hid (∀ i, i < r → OwnAts w4 wo.heap.size W3.heap.size (At i) (Nt i) (Ct i) (l3.getD i dIt).attrs ∧ (At i = none → Ct i = 0)) := Lib.hid (fun i hi => ⟨(G3.out.ats i (by have := HL3.out; omega)).1.only (Only.below (P := fun _ => False) hb4) (fun _ _ _ h => h), (G3.out.ats i (by have := HL3.out; omega)).2⟩)
            have EA4 : Hid (∀ i j, i < r → j < r → i ≠ j → ∀ x y, At i = some x → At j = some y → Nt i ≠ 0 → Nt j ≠ 0 → x.block ≠ y.block) := Lib.hid (fun i j hi hj => G3.out.each i j (by have := HL3.out; omega) (by have := HL3.out; omega))
            have hz4 : W3.heap.size ≤ w4.heap.size := hb4.size
            clear hg4 hb4 G3 D3 S3 E3 O3
            go_wp2_with (at_builtin; refine wpList_append_own_at _ rfl _ _ 24 rfl W3.heap.size 67 i0 (.agg #[.int .i64 0, .string ByteArray.empty, .string ByteArray.empty, .string ByteArray.empty, .slice none 0 0]) 5 80 Tryz.underlying24 hi hz0 hi1 hz2 rfl (by decide) _ m _ rfl GJ.out.row ⟨bt, 0, none⟩ r qt (flatI l3 At Nt Ct) rfl ?c6 ?c1 ?c2 ?c3 ?c4 ?c5 ?_)
            case c6 => rw [flatI_length, HL3.out]
            case c1 => exact T4.out.row.cells rfl
            case c2 => exact flatI_one _ _ _ _
            case c3 => unfold maxLen; omega
            case c4 => omega
            case c5 => exact hz4
            intro v' w5 hown' hgr _ hat
            obtain ⟨a5, c5, rfl⟩ := owns_slice hown'
            obtain ⟨x5, rfl⟩ := owns_some hown' (by omega)
            have G5 := Lib.hid (GJ.out.joinO (B := w.heap.size) (B2 := wo.heap.size) HL3.out AT4.out EA4.out (by omega) hws hz4 hown' hgr (hat.imp id fun e => ⟨w4.heap.size, e, Nat.le_refl _⟩))
            have hrow : ∀ g, (Value.slice (some x4) m c4).ownBlock = some g → W3.heap.size ≤ g := fun g e => (GJ.out.row.lt g e).1
            have S5 := Lib.hid (S4.out.grown hgr (fun g e => by have := hrow g e; omega))
            have E5 := Lib.hid (grown_mix E4.out hgr (fun g e => by have := hrow g e; omega))
            have O5 := Lib.hid (O4.out.trans ((Only.grown hgr).mono fun i e => .inr (by have := hrow i e.symm; omega)))
            clear hown' hgr hat hrow AT4 EA4 GJ T4 S4 E4 O4
            have hl5 := G5.out.len
            have KF := specMoreFault_any (some x5) (m + r) c5 (movedTo l 0 m 0 ++ l3) w5 (drawn_small DJ.out (by omega)) (G5.out.own (by omega) (drawn_sizes DJ.out _)).its
            generalize moreCode (movedTo l 0 m 0 ++ l3) = cd at KF
            clear hl5
            go_wp2_with fail
            refine KF.mono ?_
            clear KF
            rintro e w6 ⟨rfl, hb6⟩
            have G6 := Lib.hid (G5.out.below hb6)
            have S6 := Lib.hid (S5.out.below hb6)
            have E6 := Lib.hid (step_below E5.out hb6)
            have GO6 := Lib.hid (KR.out _ (O5.out.trans (Only.below hb6)))
            clear hb6 G5 S5 E5 O5 KR
            by_cases hcd : cd = 0
            · have hcd1 : (cd == 0) = true := by rw [beq_iff_eq]; exact hcd
              clear hcd
              go_wp2
              go_roundw
              case rel => exact ⟨j, m + r, c5, x5, _, _, _, _, k1, rfl, by go_num, by omega, by omega, G6, DJ, S6, E6⟩
              case measure => simp [intOf]
            · have hcd1 : (cd == 0) = false := by rw [beq_eq_false_iff_ne]; exact hcd
              clear hcd
              go_wp2
              go_roundw
              case rel => exact ⟨j, m, q, x, l, A, N, C, k1, rfl, by go_num, by omega, by omega, GO6, D0, S6, E6⟩
              case measure => simp [intOf]
          · have hcs2 : decide (ys.toList = [106, 97, 98, 98, 101, 114, 58, 99, 108, 105, 101, 110, 116]) = false := by simp [hcs]
            have hcs3 : (ys.toList == [106, 97, 98, 98, 101, 114, 58, 99, 108, 105, 101, 110, 116]) = false := by rw [beq_eq_false_iff_ne]; exact hcs
            have G3 := G2
            have D3 := D2
            have S3 := S2
            have E3 := E2
            have O3 := O2
            clear G2 D2 S2 E2 O2 hdr hy
            go_upto_region 13 with fail
            have HL3 := Lib.hid G3.out.len
            have GO := KR.out _ O3.out
            have KA3 := KA.out _ GO
            have hzW := O3.out.size
            obtain ⟨l3, hl3⟩ : ∃ l3, l3 = l2 := ⟨_, rfl⟩
            obtain ⟨W3, hW3⟩ : ∃ W3, W3 = wr := ⟨_, rfl⟩
            subst hl3 hW3
            clear KA GO
            go_wp2_with fail
            refine KA3.mono ?_
            clear KA3
            rintro e w4 ⟨x4, n4, c4, A4, N4, C4, rfl, hg4, hb4⟩
            obtain rfl : m = n4 := by have := hg4.len; rw [movedTo_length] at this; omega
            have GJ := Lib.hid hg4
            have T4 := Lib.hid (G3.out.below hb4)
            have DJ := Lib.hid (drawn_append (drawn_moved D0.out m) D3.out)
            have S4 := Lib.hid (S3.out.below hb4)
            have E4 := Lib.hid (step_below E3.out hb4)
            have O4 := Lib.hid (O3.out.trans (Only.below hb4))
            have AT4 : Hid (∀ i, i < r → OwnAts w4 wo.heap.size W3.heap.size (At i) (Nt i) (Ct i) (l3.getD i dIt).attrs ∧ (At i = none → Ct i = 0)) := Lib.hid (fun i hi => ⟨(G3.out.ats i (by have := HL3.out; omega)).1.only (Only.below (P := fun _ => False) hb4) (fun _ _ _ h => h), (G3.out.ats i (by have := HL3.out; omega)).2⟩)
            have EA4 : Hid (∀ i j, i < r → j < r → i ≠ j → ∀ x y, At i = some x → At j = some y → Nt i ≠ 0 → Nt j ≠ 0 → x.block ≠ y.block) := Lib.hid (fun i j hi hj => G3.out.each i j (by have := HL3.out; omega) (by have := HL3.out; omega))
            have hz4 : W3.heap.size ≤ w4.heap.size := hb4.size
            clear hg4 hb4 G3 D3 S3 E3 O3
            go_wp2_with (at_builtin; refine wpList_append_own_at _ rfl _ _ 24 rfl W3.heap.size 67 i0 (.agg #[.int .i64 0, .string ByteArray.empty, .string ByteArray.empty, .string ByteArray.empty, .slice none 0 0]) 5 80 Tryz.underlying24 hi hz0 hi1 hz2 rfl (by decide) _ m _ rfl GJ.out.row ⟨bt, 0, none⟩ r qt (flatI l3 At Nt Ct) rfl ?c6 ?c1 ?c2 ?c3 ?c4 ?c5 ?_)
            case c6 => rw [flatI_length, HL3.out]
            case c1 => exact T4.out.row.cells rfl
            case c2 => exact flatI_one _ _ _ _
            case c3 => unfold maxLen; omega
            case c4 => omega
            case c5 => exact hz4
            intro v' w5 hown' hgr _ hat
            obtain ⟨a5, c5, rfl⟩ := owns_slice hown'
            obtain ⟨x5, rfl⟩ := owns_some hown' (by omega)
            have G5 := Lib.hid (GJ.out.joinO (B := w.heap.size) (B2 := wo.heap.size) HL3.out AT4.out EA4.out (by omega) hws hz4 hown' hgr (hat.imp id fun e => ⟨w4.heap.size, e, Nat.le_refl _⟩))
            have hrow : ∀ g, (Value.slice (some x4) m c4).ownBlock = some g → W3.heap.size ≤ g := fun g e => (GJ.out.row.lt g e).1
            have S5 := Lib.hid (S4.out.grown hgr (fun g e => by have := hrow g e; omega))
            have E5 := Lib.hid (grown_mix E4.out hgr (fun g e => by have := hrow g e; omega))
            have O5 := Lib.hid (O4.out.trans ((Only.grown hgr).mono fun i e => .inr (by have := hrow i e.symm; omega)))
            clear hown' hgr hat hrow AT4 EA4 GJ T4 S4 E4 O4
            have hl5 := G5.out.len
            have KF := specMoreFault_any (some x5) (m + r) c5 (movedTo l 0 m 0 ++ l3) w5 (drawn_small DJ.out (by omega)) (G5.out.own (by omega) (drawn_sizes DJ.out _)).its
            generalize moreCode (movedTo l 0 m 0 ++ l3) = cd at KF
            clear hl5
            go_wp2_with fail
            refine KF.mono ?_
            clear KF
            rintro e w6 ⟨rfl, hb6⟩
            have G6 := Lib.hid (G5.out.below hb6)
            have S6 := Lib.hid (S5.out.below hb6)
            have E6 := Lib.hid (step_below E5.out hb6)
            have GO6 := Lib.hid (KR.out _ (O5.out.trans (Only.below hb6)))
            clear hb6 G5 S5 E5 O5 KR
            by_cases hcd : cd = 0
            · have hcd1 : (cd == 0) = true := by rw [beq_iff_eq]; exact hcd
              clear hcd
              go_wp2
              go_roundw
              case rel => exact ⟨j, m + r, c5, x5, _, _, _, _, k1, rfl, by go_num, by omega, by omega, G6, DJ, S6, E6⟩
              case measure => simp [intOf]
            · have hcd1 : (cd == 0) = false := by rw [beq_eq_false_iff_ne]; exact hcd
              clear hcd
              go_wp2
              go_roundw
              case rel => exact ⟨j, m, q, x, l, A, N, C, k1, rfl, by go_num, by omega, by omega, GO6, D0, S6, E6⟩
              case measure => simp [intOf]
structure X7 (w : World) (x : Nat) (v0 v1 v2 v3 v4 v5 v6 : Value) : Prop where
  lt : x < w.heap.size
  c0 : w.cell? ⟨x, 0, none⟩ = some v0
  c1 : w.cell? ⟨x, 1, none⟩ = some v1
  c2 : w.cell? ⟨x, 2, none⟩ = some v2
  c3 : w.cell? ⟨x, 3, none⟩ = some v3
  c4 : w.cell? ⟨x, 4, none⟩ = some v4
  c5 : w.cell? ⟨x, 5, none⟩ = some v5
  c6 : w.cell? ⟨x, 6, none⟩ = some v6
  fz : ∀ i, i < 7 → w.frozen? ⟨x, i, none⟩ = false
theorem X7.grown {w w' : World} {x : Nat} {v0 v1 v2 v3 v4 v5 v6 : Value} {row : Option Nat} (h : X7 w x v0 v1 v2 v3 v4 v5 v6) (hg : w.grownBy w' row) (hne : some x ≠ row) : X7 w' x v0 v1 v2 v3 v4 v5 v6 :=
  ⟨Nat.lt_of_lt_of_le h.lt hg.size, hg.cell h.c0 hne, hg.cell h.c1 hne, hg.cell h.c2 hne, hg.cell h.c3 hne, hg.cell h.c4 hne, hg.cell h.c5 hne, hg.cell h.c6 hne, fun i hi => (hg.frozen_far ⟨x, i, none⟩ h.lt hne).trans (h.fz i hi)⟩
theorem X7.below {w w' : World} {x : Nat} {v0 v1 v2 v3 v4 v5 v6 : Value} (h : X7 w x v0 v1 v2 v3 v4 v5 v6) (hb : Below w.heap.size w w') : X7 w' x v0 v1 v2 v3 v4 v5 v6 := h.grown (row := none) (grown_below hb) (by simp)
theorem X7.new (w : World) (T : TypeId) (v0 v1 v2 v3 v4 v5 v6 : Value) : X7 (w.alloc (.cells #[v0, v1, v2, v3, v4, v5, v6] T)) w.heap.size v0 v1 v2 v3 v4 v5 v6 :=
  ⟨by simp, by simp, by simp, by simp, by simp, by simp, by simp, by simp, fun i _ => by simp⟩
theorem X7.set {w : World} {x : Nat} {v0 v1 v2 v3 v4 v5 v6 : Value} (h : X7 w x v0 v1 v2 v3 v4 v5 v6) (i : Nat) (v : Value) (hi : i < 7) : X7 (w.setCell ⟨x, i, none⟩ v) x (if i = 0 then v else v0) (if i = 1 then v else v1) (if i = 2 then v else v2) (if i = 3 then v else v3) (if i = 4 then v else v4) (if i = 5 then v else v5) (if i = 6 then v else v6) := by
  have key : ∀ (j : Nat) (u : Value), w.cell? ⟨x, j, none⟩ = some u → (w.setCell ⟨x, i, none⟩ v).cell? ⟨x, j, none⟩ = some (if i = j then v else u) := by
    intro j u hu
    by_cases e : i = j
    · subst e
      rw [if_pos rfl]
      exact set_at hu
    · rw [if_neg e]
      exact set_oth e hu
  exact ⟨by simpa using h.lt, key 0 _ h.c0, key 1 _ h.c1, key 2 _ h.c2, key 3 _ h.c3, key 4 _ h.c4, key 5 _ h.c5, key 6 _ h.c6, fun k hk => by rw [World.frozen?_setCell]; exact h.fz k hk⟩
theorem X7.off {w : World} {x : Nat} {v0 v1 v2 v3 v4 v5 v6 : Value} (h : X7 w x v0 v1 v2 v3 v4 v5 v6) {p : Addr} (hp : p.block ≠ x) (v : Value) : X7 (w.setCell p v) x v0 v1 v2 v3 v4 v5 v6 := h.grown (grown_set w p v) (by intro e; injection e with e; exact hp e.symm)
theorem X7.fill {w : World} {x : Nat} {v0 v1 v2 v3 v4 v5 v6 : Value} (h : X7 w x v0 v1 v2 v3 v4 v5 v6) (u0 u1 u2 u3 u4 u5 u6 : Value) : X7 (((((((w.setCell ⟨x, 0, none⟩ u0).setCell ⟨x, 1, none⟩ u1).setCell ⟨x, 2, none⟩ u2).setCell ⟨x, 3, none⟩ u3).setCell ⟨x, 4, none⟩ u4).setCell ⟨x, 5, none⟩ u5).setCell ⟨x, 6, none⟩ u6) x u0 u1 u2 u3 u4 u5 u6 := by
  have := ((((((h.set 0 u0 (by decide)).set 1 u1 (by decide)).set 2 u2 (by decide)).set 3 u3 (by decide)).set 4 u4 (by decide)).set 5 u5 (by decide)).set 6 u6 (by decide)
  simpa using this
structure Pr where
  kind : Int
  sender : ByteArray
  goal : ByteArray
  shown : Int
  status : ByteArray
  prio : Int
  more : List It
structure PrAt (w : World) (b : Nat) (p : Pr) (a : Option Addr) (n c : Nat) : Prop where
  lt : b < w.heap.size
  c0 : w.cell? ⟨b, 0, none⟩ = some (.int .i64 p.kind)
  c1 : w.cell? ⟨b, 1, none⟩ = some (.string p.sender)
  c2 : w.cell? ⟨b, 2, none⟩ = some (.string p.goal)
  c3 : w.cell? ⟨b, 3, none⟩ = some (.int .i64 p.shown)
  c4 : w.cell? ⟨b, 4, none⟩ = some (.string p.status)
  c5 : w.cell? ⟨b, 5, none⟩ = some (.int .i64 p.prio)
  c6 : w.cell? ⟨b, 6, none⟩ = some (.slice a n c)
theorem PrAt.below {w w' : World} {b : Nat} {p : Pr} {a : Option Addr} {n c : Nat} (h : PrAt w b p a n c) (hb : Below w.heap.size w w') : PrAt w' b p a n c :=
  ⟨Nat.lt_of_lt_of_le h.lt hb.size, (hb.cell (by exact h.lt)).trans h.c0, (hb.cell (by exact h.lt)).trans h.c1, (hb.cell (by exact h.lt)).trans h.c2, (hb.cell (by exact h.lt)).trans h.c3, (hb.cell (by exact h.lt)).trans h.c4, (hb.cell (by exact h.lt)).trans h.c5, (hb.cell (by exact h.lt)).trans h.c6⟩
theorem PrAt.new (w : World) (t : TypeId) (p : Pr) (a : Option Addr) (n c : Nat) : PrAt (w.alloc (.cells #[.int .i64 p.kind, .string p.sender, .string p.goal, .int .i64 p.shown, .string p.status, .int .i64 p.prio, .slice a n c] t)) w.heap.size p a n c :=
  ⟨by simp, by simp, by simp, by simp, by simp, by simp, by simp, by simp⟩
structure SmallPr (p : Pr) : Prop where
  texts : p.sender.size ≤ 1048576 ∧ p.goal.size ≤ 1048576 ∧ p.status.size ≤ 1048576
  more : SmallIts p.more
structure PrSize (p : Pr) : Prop where
  s1 : p.sender.size ≤ 9223372036854775807
  s2 : p.goal.size ≤ 9223372036854775807
  s4 : p.status.size ≤ 9223372036854775807
structure PrD (y : Pr) : Prop where
  kind : -1000 ≤ y.kind ∧ y.kind ≤ 1000
  sender : y.sender.size ≤ 61
  goal : y.goal.size ≤ 61
  shown : -1000 ≤ y.shown ∧ y.shown ≤ 1000
  status : y.status.size ≤ 61
  prio : -1000 ≤ y.prio ∧ y.prio ≤ 1000
  few : y.more.length ≤ 60
  more : ∀ i, DrawnIt (y.more.getD i dIt)
structure D7 (w V W : World) (b : Nat) (a : Option Addr) (n c : Nat) (xs : List Int) (k : Nat) (x : Nat) (v0 v1 v2 v3 v4 v5 v6 : Value) : Prop where
  hb : b < w.heap.size
  hx : w.heap.size < x
  res : X7 W w.heap.size (.int .i64 0) (.string ⟨#[]⟩) (.string ⟨#[]⟩) (.int .i64 0) (.string ⟨#[]⟩) (.int .i64 0) (.slice none 0 0)
  box : X7 W x v0 v1 v2 v3 v4 v5 v6
  src : Src W b a n c xs k
  gr : w.grownBy W (some b)
  on : Only (fun i => i = b ∨ i = w.heap.size ∨ i = x ∨ V.heap.size ≤ i) V W
theorem D7.init {w V : World} {b : Nat} {a : Option Addr} {n c : Nat} {xs : List Int} {k : Nat} (T : TypeId) (v0 v1 v2 v3 v4 v5 v6 : Value) (hb : b < w.heap.size) (hr : X7 V w.heap.size (.int .i64 0) (.string ⟨#[]⟩) (.string ⟨#[]⟩) (.int .i64 0) (.string ⟨#[]⟩) (.int .i64 0) (.slice none 0 0)) (hs : Src V b a n c xs k) (hg : w.grownBy V (some b)) :
    D7 w V (V.alloc (.cells #[v0, v1, v2, v3, v4, v5, v6] T)) b a n c xs k V.heap.size v0 v1 v2 v3 v4 v5 v6 :=
  have hB := below1 V (.cells #[v0, v1, v2, v3, v4, v5, v6] T)
  ⟨hb, hr.lt, hr.below hB, X7.new V T v0 v1 v2 v3 v4 v5 v6, hs.below hB, step_below hg hB, Only.below hB⟩
theorem D7.call {w V W : World} {b : Nat} {a : Option Addr} {n c : Nat} {xs : List Int} {k : Nat} {x : Nat} {v0 v1 v2 v3 v4 v5 v6 : Value} {W' : World} {k' : Nat} (h : D7 w V W b a n c xs k x v0 v1 v2 v3 v4 v5 v6) (hs : Src W' b a n c xs k') (hg : W.grownBy W' (some b)) : D7 w V W' b a n c xs k' x v0 v1 v2 v3 v4 v5 v6 := by
  have hb := h.hb
  have hx := h.hx
  exact ⟨hb, hx, h.res.grown hg (by intro e; injection e with e; omega), h.box.grown hg (by intro e; injection e with e; omega), hs, grown_trans_row h.gr hg, h.on.trans ((Only.grown hg).mono fun i e => .inl (by simpa using e))⟩
theorem D7.below {w V W : World} {b : Nat} {a : Option Addr} {n c : Nat} {xs : List Int} {k : Nat} {x : Nat} {v0 v1 v2 v3 v4 v5 v6 : Value} {W' : World} (h : D7 w V W b a n c xs k x v0 v1 v2 v3 v4 v5 v6) (hb : Below W.heap.size W W') : D7 w V W' b a n c xs k x v0 v1 v2 v3 v4 v5 v6 := h.call (h.src.below hb) (grown_of_below hb _)
theorem D7.set {w V W : World} {b : Nat} {a : Option Addr} {n c : Nat} {xs : List Int} {k : Nat} {x : Nat} {v0 v1 v2 v3 v4 v5 v6 : Value} {u0 u1 u2 u3 u4 u5 u6 : Value} (h : D7 w V W b a n c xs k x v0 v1 v2 v3 v4 v5 v6) (i : Nat) (v : Value) (hi : i < 7)
    (hu : (if i = 0 then v else v0) = u0 ∧ (if i = 1 then v else v1) = u1 ∧ (if i = 2 then v else v2) = u2 ∧ (if i = 3 then v else v3) = u3 ∧ (if i = 4 then v else v4) = u4 ∧ (if i = 5 then v else v5) = u5 ∧ (if i = 6 then v else v6) = u6) : D7 w V (W.setCell ⟨x, i, none⟩ v) b a n c xs k x u0 u1 u2 u3 u4 u5 u6 := by
  obtain ⟨rfl, rfl, rfl, rfl, rfl, rfl, rfl⟩ := hu
  have hb := h.hb
  have hx := h.hx
  exact ⟨hb, hx, h.res.off (by show x ≠ _; omega) _, h.box.set i v hi, h.src.grown (grown_set W ⟨x, i, none⟩ v) (fun j e => by cases e; show b < x; omega), grown_mix h.gr (grown_set W ⟨x, i, none⟩ v) (fun g e => by cases e; show _ ≤ x; omega), h.on.trans (Only.set W ⟨x, i, none⟩ v (.inr (.inr (.inl rfl))))⟩
theorem D7.done {w V W : World} {b : Nat} {a : Option Addr} {n c : Nat} {xs : List Int} {k : Nat} {x : Nat} {v0 v1 v2 v3 v4 v5 v6 : Value} (h : D7 w V W b a n c xs k x v0 v1 v2 v3 v4 v5 v6) :
    X7 (((((((W.setCell ⟨w.heap.size, 0, none⟩ v0).setCell ⟨w.heap.size, 1, none⟩ v1).setCell ⟨w.heap.size, 2, none⟩ v2).setCell ⟨w.heap.size, 3, none⟩ v3).setCell ⟨w.heap.size, 4, none⟩ v4).setCell ⟨w.heap.size, 5, none⟩ v5).setCell ⟨w.heap.size, 6, none⟩ v6) w.heap.size v0 v1 v2 v3 v4 v5 v6 ∧ Src (((((((W.setCell ⟨w.heap.size, 0, none⟩ v0).setCell ⟨w.heap.size, 1, none⟩ v1).setCell ⟨w.heap.size, 2, none⟩ v2).setCell ⟨w.heap.size, 3, none⟩ v3).setCell ⟨w.heap.size, 4, none⟩ v4).setCell ⟨w.heap.size, 5, none⟩ v5).setCell ⟨w.heap.size, 6, none⟩ v6) b a n c xs k ∧ w.grownBy (((((((W.setCell ⟨w.heap.size, 0, none⟩ v0).setCell ⟨w.heap.size, 1, none⟩ v1).setCell ⟨w.heap.size, 2, none⟩ v2).setCell ⟨w.heap.size, 3, none⟩ v3).setCell ⟨w.heap.size, 4, none⟩ v4).setCell ⟨w.heap.size, 5, none⟩ v5).setCell ⟨w.heap.size, 6, none⟩ v6) (some b) ∧ Only (fun i => i = b ∨ i = w.heap.size ∨ i = x ∨ V.heap.size ≤ i) V (((((((W.setCell ⟨w.heap.size, 0, none⟩ v0).setCell ⟨w.heap.size, 1, none⟩ v1).setCell ⟨w.heap.size, 2, none⟩ v2).setCell ⟨w.heap.size, 3, none⟩ v3).setCell ⟨w.heap.size, 4, none⟩ v4).setCell ⟨w.heap.size, 5, none⟩ v5).setCell ⟨w.heap.size, 6, none⟩ v6) := by
  have hb := h.hb
  have st : ∀ (W' : World) (i : Nat) (v : Value), (Src W' b a n c xs k ∧ w.grownBy W' (some b) ∧ Only (fun i => i = b ∨ i = w.heap.size ∨ i = x ∨ V.heap.size ≤ i) V W') → (Src (W'.setCell ⟨w.heap.size, i, none⟩ v) b a n c xs k ∧ w.grownBy (W'.setCell ⟨w.heap.size, i, none⟩ v) (some b) ∧ Only (fun i => i = b ∨ i = w.heap.size ∨ i = x ∨ V.heap.size ≤ i) V (W'.setCell ⟨w.heap.size, i, none⟩ v)) := fun W' i v ⟨h1, h2, h3⟩ =>
    ⟨h1.grown (grown_set W' ⟨w.heap.size, i, none⟩ v) (fun j e => by cases e; exact hb), grown_mix h2 (grown_set W' ⟨w.heap.size, i, none⟩ v) (fun g e => by cases e; exact Nat.le_refl _), h3.trans (Only.set W' ⟨w.heap.size, i, none⟩ v (.inr (.inl rfl)))⟩
  exact ⟨h.res.fill v0 v1 v2 v3 v4 v5 v6, st _ 6 _ (st _ 5 _ (st _ 4 _ (st _ 3 _ (st _ 2 _ (st _ 1 _ (st _ 0 _ ⟨h.src, h.gr, h.on⟩))))))⟩
theorem D7.its {w V W : World} {b x : Nat} {v : Value} {n B : Nat} {l : List It} {A : Nat → Option Addr} {N C : Nat → Nat} (hg : GrowIts V B v n l A N C) (ho : Only (fun i => i = b ∨ i = w.heap.size ∨ i = x ∨ V.heap.size ≤ i) V W) (hb : b < w.heap.size) (hB : w.heap.size < B) (hx : x < B ∨ V.heap.size ≤ x) : GrowIts W w.heap.size v n l A N C :=
  (hg.onlyP ho (fun i h1 h2 hp => by rcases hp with e | e | e | e <;> omega)).base (by omega)
theorem D7.fill {w V W : World} {b : Nat} {a : Option Addr} {n c : Nat} {xs : List Int} {k : Nat} {x : Nat} {v0 v1 v2 v3 v4 v5 v6 : Value} (h : D7 w V W b a n c xs k x v0 v1 v2 v3 v4 v5 v6) (u0 u1 u2 u3 u4 u5 u6 : Value) :
    D7 w V (((((((W.setCell ⟨x, 0, none⟩ u0).setCell ⟨x, 1, none⟩ u1).setCell ⟨x, 2, none⟩ u2).setCell ⟨x, 3, none⟩ u3).setCell ⟨x, 4, none⟩ u4).setCell ⟨x, 5, none⟩ u5).setCell ⟨x, 6, none⟩ u6) b a n c xs k x u0 u1 u2 u3 u4 u5 u6 :=
  ((((((h.set 0 u0 (by decide) ⟨rfl, rfl, rfl, rfl, rfl, rfl, rfl⟩).set 1 u1 (by decide) ⟨rfl, rfl, rfl, rfl, rfl, rfl, rfl⟩).set 2 u2 (by decide) ⟨rfl, rfl, rfl, rfl, rfl, rfl, rfl⟩).set 3 u3 (by decide) ⟨rfl, rfl, rfl, rfl, rfl, rfl, rfl⟩).set 4 u4 (by decide) ⟨rfl, rfl, rfl, rfl, rfl, rfl, rfl⟩).set 5 u5 (by decide) ⟨rfl, rfl, rfl, rfl, rfl, rfl, rfl⟩).set 6 u6 (by decide) ⟨rfl, rfl, rfl, rfl, rfl, rfl, rfl⟩
def WAt (w : World) (nb k : Nat) (f : Nat → ByteArray) : Prop := ∀ r, r < k → w.cell? ⟨nb, r, none⟩ = some (.string (f r))
theorem wat_new (w : World) (arr : Array Value) (e : TypeId) (m k : Nat) (hall : (List.range k).all (fun r => isWord m arr[r]?) = true) :
    ∃ f : Nat → ByteArray, WAt (w.alloc (.cells arr e)) w.heap.size k f ∧ ∀ r, r < k → (f r).size ≤ m := by
  have h := words_of (Below.refl (w.alloc (.cells arr e)).heap.size (w.alloc (.cells arr e))) m k hall
  refine ⟨fun r => if hr : r < k then (h r hr).choose else ByteArray.empty, fun r hr => ?_, fun r hr => ?_⟩
  · simp only [hr, dif_pos]
    exact (h r hr).choose_spec.1
  · simp only [hr, dif_pos]
    exact (h r hr).choose_spec.2
theorem wAtG {w w' : World} {nb k : Nat} {f : Nat → ByteArray} {row : Option Nat} (h : WAt w nb k f) (hg : w.grownBy w' row) (hne : some nb ≠ row) : WAt w' nb k f := fun r hr => hg.cell (h r hr) hne
theorem wAtS {w : World} {nb k : Nat} {f : Nat → ByteArray} (h : WAt w nb k f) {x : Nat} (hx : nb ≠ x) (i : Nat) (u : Value) : WAt (w.setCell ⟨x, i, none⟩ u) nb k f := fun r hr => (World.cell?_setCell_other _ _ _ _ (fun e => hx (congrArg Addr.block e).symm)).trans (h r hr)
theorem wpAnyH_mono {P : Program} {md : Region.Mode} {ops : Array Oper} {Q : Exit → Act → World → Prop} {S S' : World → Prop} (hS : ∀ w, S' w → S w) : ∀ (fuel : Nat) (listed : Array Bool) (a : Act) (w : World), wpAnyH P md ops Q S' fuel listed a w → wpAnyH P md ops Q S fuel listed a w
  | 0, _, _, _, h => h
  | fuel + 1, _, _, _, h => ⟨h.1, fun i hi => wpOp_mono (fun a' w' h' => ⟨hS _ h'.1, wpAnyH_mono hS fuel _ a' w' h'.2⟩) (h.2 i hi)⟩
set_option linter.unusedSimpArgs false
def PrDrawn (w : World) (b : Nat) (a : Option Addr) (n c : Nat) (xs : List Int) (k : Nat) (en : Ending) (w' : World) : Prop :=
  ∃ (y : Pr) (x : Addr) (m q : Nat) (A : Nat → Option Addr) (N C : Nat → Nat) (k' : Nat), en = .returned (.agg #[.int .i64 y.kind, .string y.sender, .string y.goal, .int .i64 y.shown, .string y.status, .int .i64 y.prio, .slice (some x) m q]) ∧ GrowIts w' w.heap.size (.slice (some x) m q) m y.more A N C ∧ m ≤ 8 ∧ PrD y ∧ k' ≤ k + 3000 ∧ Src w' b a n c xs k' ∧ w.grownBy w' (some b)
structure L7 (w V : World) (b : Nat) (a : Option Addr) (n c : Nat) (xs : List Int) (k : Nat) (f : Nat → ByteArray) : Prop where
  hb : b < w.heap.size
  hz : w.heap.size + 2 ≤ V.heap.size
  res : X7 V w.heap.size (.int .i64 0) (.string ⟨#[]⟩) (.string ⟨#[]⟩) (.int .i64 0) (.string ⟨#[]⟩) (.int .i64 0) (.slice none 0 0)
  src : Src V b a n c xs k
  gr : w.grownBy V (some b)
  wf : WAt V (w.heap.size + 1) 4 f
theorem L7.call {w V V' : World} {b : Nat} {a : Option Addr} {n c : Nat} {xs : List Int} {k k' : Nat} {f : Nat → ByteArray} (h : L7 w V b a n c xs k f) (hs : Src V' b a n c xs k') (hg : V.grownBy V' (some b)) : L7 w V' b a n c xs k' f := by
  have hb := h.hb
  exact ⟨hb, Nat.le_trans h.hz hg.size, h.res.grown hg (by intro e; injection e with e; omega), hs, grown_trans_row h.gr hg, wAtG h.wf hg (by intro e; injection e with e; omega)⟩
theorem L7.below {w V V' : World} {b : Nat} {a : Option Addr} {n c : Nat} {xs : List Int} {k : Nat} {f : Nat → ByteArray} (h : L7 w V b a n c xs k f) (hb : Below V.heap.size V V') : L7 w V' b a n c xs k f := h.call (h.src.below hb) (grown_of_below hb _)
set_option maxRecDepth 100000 in
set_option maxHeartbeats 3000000 in
theorem l7Draw_any (b : Nat) (a : Option Addr) (n c : Nat) (xs : List Int) (k : Nat) (hk : k + 9000 < 1000000) (w : World) (h : Src w b a n c xs k) :
    Calls Tryz.prog 56 #[.pointer (some ⟨b, 0, none⟩)] w (PrDrawn w b a n c xs k) := by
  have hb0 := h.lt
  have KN := Lib.hid (fun (k : Nat) (m : Int) (hm0 : 1 ≤ m) (hm : m ≤ 1000000000) (hk : k < 1000000) (W : World) (h : Src W b a n c xs k) => l1Next_any b a n c xs k m hm0 hm hk W h)
  unfold NextRes at KN
  have KM := Lib.hid (fun (k : Nat) (hk : k + 6000 < 1000000) (W : World) (h : Src W b a n c xs k) => l7More_any b a n c xs k hk W h)
  unfold MoreDrawn at KM
  have KD := Lib.hid (fun (k : Nat) (hk : k + 6 < 1000000) (W : World) (h : Src W b a n c xs k) => l1DrawText_any b a n c xs k 5 (by decide) (by omega) W h)
  unfold TextDrawn at KD
  simp only [show ((5 : Nat) : Int) = 5 from rfl] at KD
  have hbA := below1 w (.cells #[.int .i64 0, .string ⟨#[]⟩, .string ⟨#[]⟩, .int .i64 0, .string ⟨#[]⟩, .int .i64 0, .slice none 0 0] 26)
  have hbB := below_then hbA (below1 (w.alloc (.cells #[.int .i64 0, .string ⟨#[]⟩, .string ⟨#[]⟩, .int .i64 0, .string ⟨#[]⟩, .int .i64 0, .slice none 0 0] 26)) (.cells #[.string ⟨#[]⟩, .string ⟨#[97, 64, 98]⟩, .string ⟨#[106, 117, 108, 105, 101, 116, 64, 101, 120, 97, 109, 112, 108, 101, 46, 99, 111, 109, 47, 98, 97, 108, 99, 111, 110, 121]⟩, .string ⟨#[120]⟩] 9))
  have XR := (X7.new w 26 (.int .i64 0) (.string ⟨#[]⟩) (.string ⟨#[]⟩) (.int .i64 0) (.string ⟨#[]⟩) (.int .i64 0) (.slice none 0 0)).below (below1 _ (.cells #[.string ⟨#[]⟩, .string ⟨#[97, 64, 98]⟩, .string ⟨#[106, 117, 108, 105, 101, 116, 64, 101, 120, 97, 109, 112, 108, 101, 46, 99, 111, 109, 47, 98, 97, 108, 99, 111, 110, 121]⟩, .string ⟨#[120]⟩] 9))
  obtain ⟨f, hf0, hfs⟩ : ∃ f, WAt ((w.alloc (.cells #[.int .i64 0, .string ⟨#[]⟩, .string ⟨#[]⟩, .int .i64 0, .string ⟨#[]⟩, .int .i64 0, .slice none 0 0] 26)).alloc (.cells #[.string ⟨#[]⟩, .string ⟨#[97, 64, 98]⟩, .string ⟨#[106, 117, 108, 105, 101, 116, 64, 101, 120, 97, 109, 112, 108, 101, 46, 99, 111, 109, 47, 98, 97, 108, 99, 111, 110, 121]⟩, .string ⟨#[120]⟩] 9)) (w.heap.size + 1) 4 f ∧ ∀ r, r < 4 → (f r).size ≤ 60 := by
    have := wat_new (w.alloc (.cells #[.int .i64 0, .string ⟨#[]⟩, .string ⟨#[]⟩, .int .i64 0, .string ⟨#[]⟩, .int .i64 0, .slice none 0 0] 26)) #[.string ⟨#[]⟩, .string ⟨#[97, 64, 98]⟩, .string ⟨#[106, 117, 108, 105, 101, 116, 64, 101, 120, 97, 109, 112, 108, 101, 46, 99, 111, 109, 47, 98, 97, 108, 99, 111, 110, 121]⟩, .string ⟨#[120]⟩] 9 60 4 (by decide +kernel)
    rw [World.size_alloc] at this
    exact this
  have LL : Hid (L7 w ((w.alloc (.cells #[.int .i64 0, .string ⟨#[]⟩, .string ⟨#[]⟩, .int .i64 0, .string ⟨#[]⟩, .int .i64 0, .slice none 0 0] 26)).alloc (.cells #[.string ⟨#[]⟩, .string ⟨#[97, 64, 98]⟩, .string ⟨#[106, 117, 108, 105, 101, 116, 64, 101, 120, 97, 109, 112, 108, 101, 46, 99, 111, 109, 47, 98, 97, 108, 99, 111, 110, 121]⟩, .string ⟨#[120]⟩] 9)) b a n c xs k f) := Lib.hid ⟨hb0, by simp, XR, h.below hbB, grown_of_below hbB (some b), hf0⟩
  clear h hf0 hbA hbB XR
  go_enter Tryz.func56, Tryz.ntmps56
  go_wp2_with fail
  generalize (w.alloc (.cells #[.int .i64 0, .string ⟨#[]⟩, .string ⟨#[]⟩, .int .i64 0, .string ⟨#[]⟩, .int .i64 0, .slice none 0 0] 26)).alloc (.cells #[.string ⟨#[]⟩, .string ⟨#[97, 64, 98]⟩, .string ⟨#[106, 117, 108, 105, 101, 116, 64, 101, 120, 97, 109, 112, 108, 101, 46, 99, 111, 109, 47, 98, 97, 108, 99, 111, 110, 121]⟩, .string ⟨#[120]⟩] 9) = w0 at *
  go_cut [4] (fun v wx => ∃ (xp : Nat) (d : Int) (r1 r2 : Nat) (x : Addr) (m q : Nat) (l : List It) (A : Nat → Option Addr) (N C : Nat → Nat) (k5 B : Nat) (V : World), v = .pointer (some ⟨xp, 0, none⟩) ∧ 0 ≤ d ∧ d ≤ 6 ∧ r1 < 4 ∧ r2 < 4 ∧ k5 ≤ k + 2103 ∧ m ≤ 8 ∧ Hid (D7 w V wx b a n c xs k5 xp (.int .i64 d) (.string (f r1)) (.string (f r2)) (.int .i64 0) (.string ⟨#[]⟩) (.int .i64 0) (.slice (some x) m q)) ∧ Hid (GrowIts V B (.slice (some x) m q) m l A N C) ∧ Hid (∀ i, DrawnIt (l.getD i dIt)) ∧ w.heap.size < B ∧ (xp < B ∨ V.heap.size ≤ xp))
  case first =>
    have LN := Lib.hid (LL.out.below ((Below.refl w0.heap.size w0).drew))
    refine wp_region_noPanic ?_
    refine wp_region_held_drew (S := (fun W => ∀ r, r < 4 → W.cell? ⟨w.heap.size + 1, r, none⟩ = some (.string (f r)))) (by kernel_rfl) ?_ (fun hHeld => ?_)
    · exact LN.out.wf
    clear LL
    have LL := LN
    clear LN
    generalize w0.drew = V0 at *
    refine wpAnyH_take (i := 0) (oi := _) (v := ?_) rfl (by kernel_rfl) (by kernel_rfl) (by kernel_rfl) (fun _ _ _ h => h) (Or.inl ⟨by rfl, ?_⟩) (by with_reducible assumption) ?_
    rotate_left
    · intro Wz hSw
      clear hSw
      go_simp
      all_goals (with_reducible rfl)
    try simp only [Act.put, List.getElem_toArray, List.getElem_cons_zero, List.getElem_cons_succ, List.setIfInBounds_toArray, List.set_cons_zero, List.set_cons_succ]
    refine wpAnyH_take (i := 3) (oi := _) (v := ?_) rfl (by kernel_rfl) (by kernel_rfl) (by kernel_rfl) (fun _ _ _ h => h) (Or.inl ⟨by rfl, ?_⟩) (by with_reducible assumption) ?_
    rotate_left
    · intro Wz hSw
      clear hSw
      go_simp
      all_goals (with_reducible rfl)
    try simp only [Act.put, List.getElem_toArray, List.getElem_cons_zero, List.getElem_cons_succ, List.setIfInBounds_toArray, List.set_cons_zero, List.set_cons_succ]
    refine wpAnyH_take (i := 4) (oi := _) (v := ?_) rfl (by kernel_rfl) (by kernel_rfl) (by kernel_rfl) (fun _ _ _ h => h) (Or.inl ⟨by rfl, ?_⟩) (by with_reducible assumption) ?_
    rotate_left
    · intro Wz hSw
      clear hSw
      go_simp
      all_goals (with_reducible rfl)
    try simp only [Act.put, List.getElem_toArray, List.getElem_cons_zero, List.getElem_cons_succ, List.setIfInBounds_toArray, List.set_cons_zero, List.set_cons_succ]
    refine wpAnyH_take (i := 8) (oi := _) (v := ?_) rfl (by kernel_rfl) (by kernel_rfl) (by kernel_rfl) (fun _ _ _ h => h) (Or.inl ⟨by rfl, ?_⟩) (by with_reducible assumption) ?_
    rotate_left
    · intro Wz hSw
      clear hSw
      go_simp
      all_goals (with_reducible rfl)
    try simp only [Act.put, List.getElem_toArray, List.getElem_cons_zero, List.getElem_cons_succ, List.setIfInBounds_toArray, List.set_cons_zero, List.set_cons_succ]
    refine wpAnyH_take (i := 9) (oi := _) (v := ?_) rfl (by kernel_rfl) (by kernel_rfl) (by kernel_rfl) (fun _ _ _ h => h) (Or.inl ⟨by rfl, ?_⟩) (by with_reducible assumption) ?_
    rotate_left
    · intro Wz hSw
      clear hSw
      go_simp
      all_goals (with_reducible rfl)
    try simp only [Act.put, List.getElem_toArray, List.getElem_cons_zero, List.getElem_cons_succ, List.setIfInBounds_toArray, List.set_cons_zero, List.set_cons_succ]
    refine wpAnyH_take (i := 13) (oi := _) (v := ?_) rfl (by kernel_rfl) (by kernel_rfl) (by kernel_rfl) (fun _ _ _ h => h) (Or.inl ⟨by rfl, ?_⟩) (by with_reducible assumption) ?_
    rotate_left
    · intro Wz hSw
      clear hSw
      go_simp
      all_goals (with_reducible rfl)
    try simp only [Act.put, List.getElem_toArray, List.getElem_cons_zero, List.getElem_cons_succ, List.setIfInBounds_toArray, List.set_cons_zero, List.set_cons_succ]
    refine wpAnyH_ready (rs := [1, 16]) (by kernel_rfl) (by simp) ?_
    refine AllReadyH.cons (o := _) rfl (fun K hK => ?_) (AllReadyH.cons (o := _) rfl (fun K hK => ?_) AllReadyH.nil)
    · have LN := Lib.hid (LL.out.below (below1 V0 (.cells #[.int .i64 0, .int .i64 0, .int .i64 0, .int .i64 1, .int .i64 2, .int .i64 3, .int .i64 4, .int .i64 5, .int .i64 6] 2)))
      have HR : Hid (Row (V0.alloc (.cells #[.int .i64 0, .int .i64 0, .int .i64 0, .int .i64 1, .int .i64 2, .int .i64 3, .int .i64 4, .int .i64 5, .int .i64 6] 2)) .i64 (.slice (some ⟨V0.heap.size, 0, none⟩) 9 9) [0, 0, 0, 1, 2, 3, 4, 5, 6]) := Lib.hid (lit_row V0 2 .i64 [0, 0, 0, 1, 2, 3, 4, 5, 6] 9 rfl (by decide))
      have hlb : V0.heap.size ≠ b := by have := LL.out.hz; have := LL.out.hb; omega
      go_simp
      refine hK.out _ _ ?_ (fun hHeld => ?_)
      · exact LN.out.wf
      clear hK K
      try simp only [Act.put, List.getElem_toArray, List.getElem_cons_zero, List.getElem_cons_succ, List.setIfInBounds_toArray, List.set_cons_zero, List.set_cons_succ]
      clear LL
      have LL := LN
      clear LN
      generalize V0.heap.size = lb at HR hlb ⊢
      generalize V0.alloc (.cells #[.int .i64 0, .int .i64 0, .int .i64 0, .int .i64 1, .int .i64 2, .int .i64 3, .int .i64 4, .int .i64 5, .int .i64 6] 2) = V1 at *
      obtain ⟨V0, hV0⟩ : ∃ V0, V0 = V1 := ⟨_, rfl⟩
      subst hV0
      refine wpAnyH_ready (rs := [2, 16]) (by kernel_rfl) (by simp) ?_
      refine AllReadyH.cons (o := _) rfl (fun K hK => ?_) (AllReadyH.cons (o := _) rfl (fun K hK => ?_) AllReadyH.nil)
      · have KP := l1Pick_any b a n c xs k lb 9 _ rfl (by decide) (by decide) (by omega) _ LL.out.src HR.out hlb
        unfold PickRes at KP
        go_simp
        refine KP.mono ?_
        clear KP HR
        rintro e V1 ⟨d, rfl, hdm, hs, hg⟩
        have LN := Lib.hid (LL.out.call hs hg)
        have hd : 0 ≤ d ∧ d ≤ 6 := by
          simp only [List.mem_cons, List.not_mem_nil, or_false] at hdm
          omega
        clear hdm
        clear LL
        have LL := LN
        clear LN
        go_wp2_with fail
        refine hK.out _ _ ?_ (fun hHeld => ?_)
        · exact LL.out.wf
        clear hK K
        try simp only [Act.put, List.getElem_toArray, List.getElem_cons_zero, List.getElem_cons_succ, List.setIfInBounds_toArray, List.set_cons_zero, List.set_cons_succ]
        clear hs hg
        obtain ⟨V0, hV0⟩ : ∃ V0, V0 = V1 := ⟨_, rfl⟩
        subst hV0
        refine wpAnyH_ready (rs := [5, 16]) (by kernel_rfl) (by simp) ?_
        refine AllReadyH.cons (o := _) rfl (fun K hK => ?_) (AllReadyH.cons (o := _) rfl (fun K hK => ?_) AllReadyH.nil)
        · go_simp
          refine (KN.out (k + 1) 4 (by decide) (by decide) (by omega) _ LL.out.src).mono ?_
          rintro e V1 ⟨r1, rfl, hr1, hs, hg⟩
          have hr1 : r1 < 4 := by have := hr1 (by decide); omega
          have LN := Lib.hid (LL.out.call hs hg)
          clear LL
          have LL := LN
          clear LN
          go_wp2_with fail
          refine hK.out _ _ ?_ (fun hHeld => ?_)
          · exact LL.out.wf
          clear hK K
          try simp only [Act.put, List.getElem_toArray, List.getElem_cons_zero, List.getElem_cons_succ, List.setIfInBounds_toArray, List.set_cons_zero, List.set_cons_succ]
          clear hs hg
          obtain ⟨V0, hV0⟩ : ∃ V0, V0 = V1 := ⟨_, rfl⟩
          subst hV0
          refine wpAnyH_take (i := 6) (oi := _) (v := ?_) rfl (by kernel_rfl) (by kernel_rfl) (by kernel_rfl) (fun _ _ _ h => h) (Or.inl ⟨by rfl, ?_⟩) (by with_reducible assumption) ?_
          rotate_left
          · intro Wz hSw
            clear hSw
            go_simp
            all_goals (with_reducible rfl)
          try simp only [Act.put, List.getElem_toArray, List.getElem_cons_zero, List.getElem_cons_succ, List.setIfInBounds_toArray, List.set_cons_zero, List.set_cons_succ]
          refine wpAnyH_take (i := 7) (oi := _) (v := ?_) rfl (by kernel_rfl) (by kernel_rfl) (by kernel_rfl) (fun _ _ _ h => h) (Or.inl ⟨by rfl, ?_⟩) (by with_reducible assumption) ?_
          rotate_left
          · intro Wz hSw
            have hw := hSw r1 hr1
            clear hSw
            go_simp
            all_goals (with_reducible rfl)
          try simp only [Act.put, List.getElem_toArray, List.getElem_cons_zero, List.getElem_cons_succ, List.setIfInBounds_toArray, List.set_cons_zero, List.set_cons_succ]
          refine wpAnyH_ready (rs := [10, 16]) (by kernel_rfl) (by simp) ?_
          refine AllReadyH.cons (o := _) rfl (fun K hK => ?_) (AllReadyH.cons (o := _) rfl (fun K hK => ?_) AllReadyH.nil)
          · go_simp
            refine (KN.out (k + 1 + 1) 4 (by decide) (by decide) (by omega) _ LL.out.src).mono ?_
            rintro e V1 ⟨r2, rfl, hr2, hs, hg⟩
            have hr2 : r2 < 4 := by have := hr2 (by decide); omega
            have LN := Lib.hid (LL.out.call hs hg)
            clear LL
            have LL := LN
            clear LN
            go_wp2_with fail
            refine hK.out _ _ ?_ (fun hHeld => ?_)
            · exact LL.out.wf
            clear hK K
            try simp only [Act.put, List.getElem_toArray, List.getElem_cons_zero, List.getElem_cons_succ, List.setIfInBounds_toArray, List.set_cons_zero, List.set_cons_succ]
            clear hs hg
            obtain ⟨V0, hV0⟩ : ∃ V0, V0 = V1 := ⟨_, rfl⟩
            subst hV0
            refine wpAnyH_take (i := 11) (oi := _) (v := ?_) rfl (by kernel_rfl) (by kernel_rfl) (by kernel_rfl) (fun _ _ _ h => h) (Or.inl ⟨by rfl, ?_⟩) (by with_reducible assumption) ?_
            rotate_left
            · intro Wz hSw
              clear hSw
              go_simp
              all_goals (with_reducible rfl)
            try simp only [Act.put, List.getElem_toArray, List.getElem_cons_zero, List.getElem_cons_succ, List.setIfInBounds_toArray, List.set_cons_zero, List.set_cons_succ]
            refine wpAnyH_take (i := 12) (oi := _) (v := ?_) rfl (by kernel_rfl) (by kernel_rfl) (by kernel_rfl) (fun _ _ _ h => h) (Or.inl ⟨by rfl, ?_⟩) (by with_reducible assumption) ?_
            rotate_left
            · intro Wz hSw
              have hw := hSw r2 hr2
              clear hSw
              go_simp
              all_goals (with_reducible rfl)
            try simp only [Act.put, List.getElem_toArray, List.getElem_cons_zero, List.getElem_cons_succ, List.setIfInBounds_toArray, List.set_cons_zero, List.set_cons_succ]
            refine wpAnyH_ready (rs := [14, 16]) (by kernel_rfl) (by simp) ?_
            refine AllReadyH.cons (o := _) rfl (fun K hK => ?_) (AllReadyH.cons (o := _) rfl (fun K hK => ?_) AllReadyH.nil)
            · go_simp
              refine (KM.out (k + 1 + 1 + 1) (by omega) _ LL.out.src).mono ?_
              rintro e V1 ⟨x, m, q, l, A, N, C, k5, rfl, hG5, hm5, hD5, hk5, hs, hg⟩
              have LN := Lib.hid (LL.out.call hs hg)
              have GM := Lib.hid hG5
              have HD5 := Lib.hid hD5
              have hBV : w.heap.size < V0.heap.size := by have := LL.out.hz; omega
              clear hG5 hD5
              clear LL
              have LL := LN
              clear LN
              go_wp2_with fail
              refine hK.out _ _ ?_ (fun hHeld => ?_)
              · exact LL.out.wf
              clear hK K
              try simp only [Act.put, List.getElem_toArray, List.getElem_cons_zero, List.getElem_cons_succ, List.setIfInBounds_toArray, List.set_cons_zero, List.set_cons_succ]
              clear hs hg
              obtain ⟨V4, hV4⟩ : ∃ V4, V4 = V0 := ⟨_, rfl⟩
              subst hV4
              obtain ⟨V0, hV0⟩ : ∃ V0, V0 = V1 := ⟨_, rfl⟩
              subst hV0
              refine wpAnyH_take (i := 15) (oi := _) (v := ?_) rfl (by kernel_rfl) (by kernel_rfl) (by kernel_rfl) (fun _ _ _ h => h) (Or.inl ⟨by rfl, ?_⟩) (by with_reducible assumption) ?_
              rotate_left
              · intro Wz hSw
                clear hSw
                go_simp
                all_goals (with_reducible rfl)
              try simp only [Act.put, List.getElem_toArray, List.getElem_cons_zero, List.getElem_cons_succ, List.setIfInBounds_toArray, List.set_cons_zero, List.set_cons_succ]
              refine wpAnyH_ready (rs := [16]) (by kernel_rfl) (by simp) ?_
              refine AllReadyH.cons (o := _) rfl (fun K hK => ?_) AllReadyH.nil
              have LN := Lib.hid (LL.out.below (below1 V0 (.cells #[.int .i64 0, .string ⟨#[]⟩, .string ⟨#[]⟩, .int .i64 0, .string ⟨#[]⟩, .int .i64 0, .slice none 0 0] 26)))
              have BX := Lib.hid (X7.new V0 26 (.int .i64 0) (.string ⟨#[]⟩) (.string ⟨#[]⟩) (.int .i64 0) (.string ⟨#[]⟩) (.int .i64 0) (.slice none 0 0))
              have hxw : w.heap.size + 1 ≠ V0.heap.size := by have := LL.out.hz; omega
              have hxz : w.heap.size < V0.heap.size := by have := LL.out.hz; omega
              have DD := Lib.hid (⟨LL.out.hb, hxz, LN.out.res, BX.out, LN.out.src, LN.out.gr, Only.below (below1 V0 (.cells #[.int .i64 0, .string ⟨#[]⟩, .string ⟨#[]⟩, .int .i64 0, .string ⟨#[]⟩, .int .i64 0, .slice none 0 0] 26))⟩ : D7 w V0 (V0.alloc (.cells #[.int .i64 0, .string ⟨#[]⟩, .string ⟨#[]⟩, .int .i64 0, .string ⟨#[]⟩, .int .i64 0, .slice none 0 0] 26)) b a n c xs k5 V0.heap.size (.int .i64 0) (.string ⟨#[]⟩) (.string ⟨#[]⟩) (.int .i64 0) (.string ⟨#[]⟩) (.int .i64 0) (.slice none 0 0))
              go_simp
              refine hK.out _ _ ?_ (fun hHeld => ?_)
              · exact LN.out.wf
              clear hK K
              try simp only [Act.put, List.getElem_toArray, List.getElem_cons_zero, List.getElem_cons_succ, List.setIfInBounds_toArray, List.set_cons_zero, List.set_cons_succ]
              clear LL
              have LL := LN
              clear LN
              generalize V0.alloc (.cells #[.int .i64 0, .string ⟨#[]⟩, .string ⟨#[]⟩, .int .i64 0, .string ⟨#[]⟩, .int .i64 0, .slice none 0 0] 26) = V0b at *
              obtain ⟨xp, hxp⟩ : ∃ xp, V0.heap.size = xp := ⟨_, rfl⟩
              rw [hxp] at DD BX hxw hxz ⊢
              have hxs : xp < V4.heap.size ∨ V0.heap.size ≤ xp := .inr (by omega)
              clear hxp
              have e0 := DD.out.box.c0
              have e1 := DD.out.box.c1
              have e2 := DD.out.box.c2
              have e3 := DD.out.box.c3
              have e4 := DD.out.box.c4
              have e5 := DD.out.box.c5
              have e6 := DD.out.box.c6
              have g0 := DD.out.box.fz 0 (by decide)
              have g1 := DD.out.box.fz 1 (by decide)
              have g2 := DD.out.box.fz 2 (by decide)
              have g3 := DD.out.box.fz 3 (by decide)
              have g4 := DD.out.box.fz 4 (by decide)
              have g5 := DD.out.box.fz 5 (by decide)
              have g6 := DD.out.box.fz 6 (by decide)
              have D9 := Lib.hid (DD.out.fill (.int .i64 d) (.string (f r1)) (.string (f r2)) (.int .i64 0) (.string ⟨#[]⟩) (.int .i64 0) (.slice (some x) m q))
              have HF9 := Lib.hid (wAtS (wAtS (wAtS (wAtS (wAtS (wAtS (wAtS LL.out.wf hxw 0 (.int .i64 d)) hxw 1 (.string (f r1))) hxw 2 (.string (f r2))) hxw 3 (.int .i64 0)) hxw 4 (.string ⟨#[]⟩)) hxw 5 (.int .i64 0)) hxw 6 (.slice (some x) m q))
              refine wpAnyH_ready (rs := [17]) (by kernel_rfl) (by simp) ?_
              refine AllReadyH.cons (o := _) rfl (fun K hK => ?_) AllReadyH.nil
              go_simp
              refine hK.out _ _ ?_ (fun hHeld => ?_)
              · exact (fun r hr => HF9.out r hr)
              clear hK K
              try simp only [Act.put, List.getElem_toArray, List.getElem_cons_zero, List.getElem_cons_succ, List.setIfInBounds_toArray, List.set_cons_zero, List.set_cons_succ]
              refine wpAnyH_done (by kernel_rfl) ?_ _
              refine NoPanic.normal ?_
              go_wp2_with fail
              go_meet
              exact ⟨xp, d, r1, r2, x, m, q, l, A, N, C, k5, _, _, rfl, hd.1, hd.2, hr1, hr2, by omega, hm5, D9, GM, HD5, hBV, hxs⟩
            · have LN := Lib.hid (LL.out.below (below1 V0 (.cells #[.int .i64 0, .string ⟨#[]⟩, .string ⟨#[]⟩, .int .i64 0, .string ⟨#[]⟩, .int .i64 0, .slice none 0 0] 26)))
              have BX := Lib.hid (X7.new V0 26 (.int .i64 0) (.string ⟨#[]⟩) (.string ⟨#[]⟩) (.int .i64 0) (.string ⟨#[]⟩) (.int .i64 0) (.slice none 0 0))
              have hxw : w.heap.size + 1 ≠ V0.heap.size := by have := LL.out.hz; omega
              have hxz : w.heap.size < V0.heap.size := by have := LL.out.hz; omega
              go_simp
              refine hK.out _ _ ?_ (fun hHeld => ?_)
              · exact LN.out.wf
              clear hK K
              try simp only [Act.put, List.getElem_toArray, List.getElem_cons_zero, List.getElem_cons_succ, List.setIfInBounds_toArray, List.set_cons_zero, List.set_cons_succ]
              clear LL
              have LL := LN
              clear LN
              generalize V0.heap.size = xp at BX hxw hxz ⊢
              generalize V0.alloc (.cells #[.int .i64 0, .string ⟨#[]⟩, .string ⟨#[]⟩, .int .i64 0, .string ⟨#[]⟩, .int .i64 0, .slice none 0 0] 26) = V1 at *
              obtain ⟨V0, hV0⟩ : ∃ V0, V0 = V1 := ⟨_, rfl⟩
              subst hV0
              refine wpAnyH_ready (rs := [14]) (by kernel_rfl) (by simp) ?_
              refine AllReadyH.cons (o := _) rfl (fun K hK => ?_) AllReadyH.nil
              go_simp
              refine (KM.out (k + 1 + 1 + 1) (by omega) _ LL.out.src).mono ?_
              rintro e V1 ⟨x, m, q, l, A, N, C, k5, rfl, hG5, hm5, hD5, hk5, hs, hg⟩
              have LN := Lib.hid (LL.out.call hs hg)
              have BN := Lib.hid (BX.out.grown hg (by have := LL.out.hb; intro e; injection e with e; omega))
              have hxs : xp < V0.heap.size ∨ V1.heap.size ≤ xp := .inl BX.out.lt
              have GM := Lib.hid hG5
              have HD5 := Lib.hid hD5
              have hBV : w.heap.size < V0.heap.size := by have := LL.out.hz; omega
              clear hG5 hD5
              clear LL
              have LL := LN
              clear LN
              clear BX
              have BX := BN
              clear BN
              go_wp2_with fail
              refine hK.out _ _ ?_ (fun hHeld => ?_)
              · exact LL.out.wf
              clear hK K
              try simp only [Act.put, List.getElem_toArray, List.getElem_cons_zero, List.getElem_cons_succ, List.setIfInBounds_toArray, List.set_cons_zero, List.set_cons_succ]
              clear hs hg
              have DD := Lib.hid (⟨LL.out.hb, hxz, LL.out.res, BX.out, LL.out.src, LL.out.gr, Only.refl V1⟩ : D7 w V1 V1 b a n c xs k5 xp (.int .i64 0) (.string ⟨#[]⟩) (.string ⟨#[]⟩) (.int .i64 0) (.string ⟨#[]⟩) (.int .i64 0) (.slice none 0 0))
              refine wpAnyH_take (i := 15) (oi := _) (v := ?_) rfl (by kernel_rfl) (by kernel_rfl) (by kernel_rfl) (fun _ _ _ h => h) (Or.inl ⟨by rfl, ?_⟩) (by with_reducible assumption) ?_
              rotate_left
              · intro Wz hSw
                clear hSw
                go_simp
                all_goals (with_reducible rfl)
              try simp only [Act.put, List.getElem_toArray, List.getElem_cons_zero, List.getElem_cons_succ, List.setIfInBounds_toArray, List.set_cons_zero, List.set_cons_succ]
              have e0 := DD.out.box.c0
              have e1 := DD.out.box.c1
              have e2 := DD.out.box.c2
              have e3 := DD.out.box.c3
              have e4 := DD.out.box.c4
              have e5 := DD.out.box.c5
              have e6 := DD.out.box.c6
              have g0 := DD.out.box.fz 0 (by decide)
              have g1 := DD.out.box.fz 1 (by decide)
              have g2 := DD.out.box.fz 2 (by decide)
              have g3 := DD.out.box.fz 3 (by decide)
              have g4 := DD.out.box.fz 4 (by decide)
              have g5 := DD.out.box.fz 5 (by decide)
              have g6 := DD.out.box.fz 6 (by decide)
              have D9 := Lib.hid (DD.out.fill (.int .i64 d) (.string (f r1)) (.string (f r2)) (.int .i64 0) (.string ⟨#[]⟩) (.int .i64 0) (.slice (some x) m q))
              have HF9 := Lib.hid (wAtS (wAtS (wAtS (wAtS (wAtS (wAtS (wAtS LL.out.wf hxw 0 (.int .i64 d)) hxw 1 (.string (f r1))) hxw 2 (.string (f r2))) hxw 3 (.int .i64 0)) hxw 4 (.string ⟨#[]⟩)) hxw 5 (.int .i64 0)) hxw 6 (.slice (some x) m q))
              refine wpAnyH_ready (rs := [17]) (by kernel_rfl) (by simp) ?_
              refine AllReadyH.cons (o := _) rfl (fun K hK => ?_) AllReadyH.nil
              go_simp
              refine hK.out _ _ ?_ (fun hHeld => ?_)
              · exact (fun r hr => HF9.out r hr)
              clear hK K
              try simp only [Act.put, List.getElem_toArray, List.getElem_cons_zero, List.getElem_cons_succ, List.setIfInBounds_toArray, List.set_cons_zero, List.set_cons_succ]
              refine wpAnyH_done (by kernel_rfl) ?_ _
              refine NoPanic.normal ?_
              go_wp2_with fail
              go_meet
              exact ⟨xp, d, r1, r2, x, m, q, l, A, N, C, k5, _, _, rfl, hd.1, hd.2, hr1, hr2, by omega, hm5, D9, GM, HD5, hBV, hxs⟩
          · have LN := Lib.hid (LL.out.below (below1 V0 (.cells #[.int .i64 0, .string ⟨#[]⟩, .string ⟨#[]⟩, .int .i64 0, .string ⟨#[]⟩, .int .i64 0, .slice none 0 0] 26)))
            have BX := Lib.hid (X7.new V0 26 (.int .i64 0) (.string ⟨#[]⟩) (.string ⟨#[]⟩) (.int .i64 0) (.string ⟨#[]⟩) (.int .i64 0) (.slice none 0 0))
            have hxw : w.heap.size + 1 ≠ V0.heap.size := by have := LL.out.hz; omega
            have hxz : w.heap.size < V0.heap.size := by have := LL.out.hz; omega
            go_simp
            refine hK.out _ _ ?_ (fun hHeld => ?_)
            · exact LN.out.wf
            clear hK K
            try simp only [Act.put, List.getElem_toArray, List.getElem_cons_zero, List.getElem_cons_succ, List.setIfInBounds_toArray, List.set_cons_zero, List.set_cons_succ]
            clear LL
            have LL := LN
            clear LN
            generalize V0.heap.size = xp at BX hxw hxz ⊢
            generalize V0.alloc (.cells #[.int .i64 0, .string ⟨#[]⟩, .string ⟨#[]⟩, .int .i64 0, .string ⟨#[]⟩, .int .i64 0, .slice none 0 0] 26) = V1 at *
            obtain ⟨V0, hV0⟩ : ∃ V0, V0 = V1 := ⟨_, rfl⟩
            subst hV0
            refine wpAnyH_ready (rs := [10]) (by kernel_rfl) (by simp) ?_
            refine AllReadyH.cons (o := _) rfl (fun K hK => ?_) AllReadyH.nil
            go_simp
            refine (KN.out (k + 1 + 1) 4 (by decide) (by decide) (by omega) _ LL.out.src).mono ?_
            rintro e V1 ⟨r2, rfl, hr2, hs, hg⟩
            have hr2 : r2 < 4 := by have := hr2 (by decide); omega
            have LN := Lib.hid (LL.out.call hs hg)
            have BN := Lib.hid (BX.out.grown hg (by have := LL.out.hb; intro e; injection e with e; omega))
            clear LL
            have LL := LN
            clear LN
            clear BX
            have BX := BN
            clear BN
            go_wp2_with fail
            refine hK.out _ _ ?_ (fun hHeld => ?_)
            · exact LL.out.wf
            clear hK K
            try simp only [Act.put, List.getElem_toArray, List.getElem_cons_zero, List.getElem_cons_succ, List.setIfInBounds_toArray, List.set_cons_zero, List.set_cons_succ]
            clear hs hg
            obtain ⟨V0, hV0⟩ : ∃ V0, V0 = V1 := ⟨_, rfl⟩
            subst hV0
            refine wpAnyH_take (i := 11) (oi := _) (v := ?_) rfl (by kernel_rfl) (by kernel_rfl) (by kernel_rfl) (fun _ _ _ h => h) (Or.inl ⟨by rfl, ?_⟩) (by with_reducible assumption) ?_
            rotate_left
            · intro Wz hSw
              clear hSw
              go_simp
              all_goals (with_reducible rfl)
            try simp only [Act.put, List.getElem_toArray, List.getElem_cons_zero, List.getElem_cons_succ, List.setIfInBounds_toArray, List.set_cons_zero, List.set_cons_succ]
            refine wpAnyH_take (i := 12) (oi := _) (v := ?_) rfl (by kernel_rfl) (by kernel_rfl) (by kernel_rfl) (fun _ _ _ h => h) (Or.inl ⟨by rfl, ?_⟩) (by with_reducible assumption) ?_
            rotate_left
            · intro Wz hSw
              have hw := hSw r2 hr2
              clear hSw
              go_simp
              all_goals (with_reducible rfl)
            try simp only [Act.put, List.getElem_toArray, List.getElem_cons_zero, List.getElem_cons_succ, List.setIfInBounds_toArray, List.set_cons_zero, List.set_cons_succ]
            refine wpAnyH_ready (rs := [14]) (by kernel_rfl) (by simp) ?_
            refine AllReadyH.cons (o := _) rfl (fun K hK => ?_) AllReadyH.nil
            go_simp
            refine (KM.out (k + 1 + 1 + 1) (by omega) _ LL.out.src).mono ?_
            rintro e V1 ⟨x, m, q, l, A, N, C, k5, rfl, hG5, hm5, hD5, hk5, hs, hg⟩
            have LN := Lib.hid (LL.out.call hs hg)
            have BN := Lib.hid (BX.out.grown hg (by have := LL.out.hb; intro e; injection e with e; omega))
            have hxs : xp < V0.heap.size ∨ V1.heap.size ≤ xp := .inl BX.out.lt
            have GM := Lib.hid hG5
            have HD5 := Lib.hid hD5
            have hBV : w.heap.size < V0.heap.size := by have := LL.out.hz; omega
            clear hG5 hD5
            clear LL
            have LL := LN
            clear LN
            clear BX
            have BX := BN
            clear BN
            go_wp2_with fail
            refine hK.out _ _ ?_ (fun hHeld => ?_)
            · exact LL.out.wf
            clear hK K
            try simp only [Act.put, List.getElem_toArray, List.getElem_cons_zero, List.getElem_cons_succ, List.setIfInBounds_toArray, List.set_cons_zero, List.set_cons_succ]
            clear hs hg
            have DD := Lib.hid (⟨LL.out.hb, hxz, LL.out.res, BX.out, LL.out.src, LL.out.gr, Only.refl V1⟩ : D7 w V1 V1 b a n c xs k5 xp (.int .i64 0) (.string ⟨#[]⟩) (.string ⟨#[]⟩) (.int .i64 0) (.string ⟨#[]⟩) (.int .i64 0) (.slice none 0 0))
            refine wpAnyH_take (i := 15) (oi := _) (v := ?_) rfl (by kernel_rfl) (by kernel_rfl) (by kernel_rfl) (fun _ _ _ h => h) (Or.inl ⟨by rfl, ?_⟩) (by with_reducible assumption) ?_
            rotate_left
            · intro Wz hSw
              clear hSw
              go_simp
              all_goals (with_reducible rfl)
            try simp only [Act.put, List.getElem_toArray, List.getElem_cons_zero, List.getElem_cons_succ, List.setIfInBounds_toArray, List.set_cons_zero, List.set_cons_succ]
            have e0 := DD.out.box.c0
            have e1 := DD.out.box.c1
            have e2 := DD.out.box.c2
            have e3 := DD.out.box.c3
            have e4 := DD.out.box.c4
            have e5 := DD.out.box.c5
            have e6 := DD.out.box.c6
            have g0 := DD.out.box.fz 0 (by decide)
            have g1 := DD.out.box.fz 1 (by decide)
            have g2 := DD.out.box.fz 2 (by decide)
            have g3 := DD.out.box.fz 3 (by decide)
            have g4 := DD.out.box.fz 4 (by decide)
            have g5 := DD.out.box.fz 5 (by decide)
            have g6 := DD.out.box.fz 6 (by decide)
            have D9 := Lib.hid (DD.out.fill (.int .i64 d) (.string (f r1)) (.string (f r2)) (.int .i64 0) (.string ⟨#[]⟩) (.int .i64 0) (.slice (some x) m q))
            have HF9 := Lib.hid (wAtS (wAtS (wAtS (wAtS (wAtS (wAtS (wAtS LL.out.wf hxw 0 (.int .i64 d)) hxw 1 (.string (f r1))) hxw 2 (.string (f r2))) hxw 3 (.int .i64 0)) hxw 4 (.string ⟨#[]⟩)) hxw 5 (.int .i64 0)) hxw 6 (.slice (some x) m q))
            refine wpAnyH_ready (rs := [17]) (by kernel_rfl) (by simp) ?_
            refine AllReadyH.cons (o := _) rfl (fun K hK => ?_) AllReadyH.nil
            go_simp
            refine hK.out _ _ ?_ (fun hHeld => ?_)
            · exact (fun r hr => HF9.out r hr)
            clear hK K
            try simp only [Act.put, List.getElem_toArray, List.getElem_cons_zero, List.getElem_cons_succ, List.setIfInBounds_toArray, List.set_cons_zero, List.set_cons_succ]
            refine wpAnyH_done (by kernel_rfl) ?_ _
            refine NoPanic.normal ?_
            go_wp2_with fail
            go_meet
            exact ⟨xp, d, r1, r2, x, m, q, l, A, N, C, k5, _, _, rfl, hd.1, hd.2, hr1, hr2, by omega, hm5, D9, GM, HD5, hBV, hxs⟩
        · have LN := Lib.hid (LL.out.below (below1 V0 (.cells #[.int .i64 0, .string ⟨#[]⟩, .string ⟨#[]⟩, .int .i64 0, .string ⟨#[]⟩, .int .i64 0, .slice none 0 0] 26)))
          have BX := Lib.hid (X7.new V0 26 (.int .i64 0) (.string ⟨#[]⟩) (.string ⟨#[]⟩) (.int .i64 0) (.string ⟨#[]⟩) (.int .i64 0) (.slice none 0 0))
          have hxw : w.heap.size + 1 ≠ V0.heap.size := by have := LL.out.hz; omega
          have hxz : w.heap.size < V0.heap.size := by have := LL.out.hz; omega
          go_simp
          refine hK.out _ _ ?_ (fun hHeld => ?_)
          · exact LN.out.wf
          clear hK K
          try simp only [Act.put, List.getElem_toArray, List.getElem_cons_zero, List.getElem_cons_succ, List.setIfInBounds_toArray, List.set_cons_zero, List.set_cons_succ]
          clear LL
          have LL := LN
          clear LN
          generalize V0.heap.size = xp at BX hxw hxz ⊢
          generalize V0.alloc (.cells #[.int .i64 0, .string ⟨#[]⟩, .string ⟨#[]⟩, .int .i64 0, .string ⟨#[]⟩, .int .i64 0, .slice none 0 0] 26) = V1 at *
          obtain ⟨V0, hV0⟩ : ∃ V0, V0 = V1 := ⟨_, rfl⟩
          subst hV0
          refine wpAnyH_ready (rs := [5]) (by kernel_rfl) (by simp) ?_
          refine AllReadyH.cons (o := _) rfl (fun K hK => ?_) AllReadyH.nil
          go_simp
          refine (KN.out (k + 1) 4 (by decide) (by decide) (by omega) _ LL.out.src).mono ?_
          rintro e V1 ⟨r1, rfl, hr1, hs, hg⟩
          have hr1 : r1 < 4 := by have := hr1 (by decide); omega
          have LN := Lib.hid (LL.out.call hs hg)
          have BN := Lib.hid (BX.out.grown hg (by have := LL.out.hb; intro e; injection e with e; omega))
          clear LL
          have LL := LN
          clear LN
          clear BX
          have BX := BN
          clear BN
          go_wp2_with fail
          refine hK.out _ _ ?_ (fun hHeld => ?_)
          · exact LL.out.wf
          clear hK K
          try simp only [Act.put, List.getElem_toArray, List.getElem_cons_zero, List.getElem_cons_succ, List.setIfInBounds_toArray, List.set_cons_zero, List.set_cons_succ]
          clear hs hg
          obtain ⟨V0, hV0⟩ : ∃ V0, V0 = V1 := ⟨_, rfl⟩
          subst hV0
          refine wpAnyH_take (i := 6) (oi := _) (v := ?_) rfl (by kernel_rfl) (by kernel_rfl) (by kernel_rfl) (fun _ _ _ h => h) (Or.inl ⟨by rfl, ?_⟩) (by with_reducible assumption) ?_
          rotate_left
          · intro Wz hSw
            clear hSw
            go_simp
            all_goals (with_reducible rfl)
          try simp only [Act.put, List.getElem_toArray, List.getElem_cons_zero, List.getElem_cons_succ, List.setIfInBounds_toArray, List.set_cons_zero, List.set_cons_succ]
          refine wpAnyH_take (i := 7) (oi := _) (v := ?_) rfl (by kernel_rfl) (by kernel_rfl) (by kernel_rfl) (fun _ _ _ h => h) (Or.inl ⟨by rfl, ?_⟩) (by with_reducible assumption) ?_
          rotate_left
          · intro Wz hSw
            have hw := hSw r1 hr1
            clear hSw
            go_simp
            all_goals (with_reducible rfl)
          try simp only [Act.put, List.getElem_toArray, List.getElem_cons_zero, List.getElem_cons_succ, List.setIfInBounds_toArray, List.set_cons_zero, List.set_cons_succ]
          refine wpAnyH_ready (rs := [10]) (by kernel_rfl) (by simp) ?_
          refine AllReadyH.cons (o := _) rfl (fun K hK => ?_) AllReadyH.nil
          go_simp
          refine (KN.out (k + 1 + 1) 4 (by decide) (by decide) (by omega) _ LL.out.src).mono ?_
          rintro e V1 ⟨r2, rfl, hr2, hs, hg⟩
          have hr2 : r2 < 4 := by have := hr2 (by decide); omega
          have LN := Lib.hid (LL.out.call hs hg)
          have BN := Lib.hid (BX.out.grown hg (by have := LL.out.hb; intro e; injection e with e; omega))
          clear LL
          have LL := LN
          clear LN
          clear BX
          have BX := BN
          clear BN
          go_wp2_with fail
          refine hK.out _ _ ?_ (fun hHeld => ?_)
          · exact LL.out.wf
          clear hK K
          try simp only [Act.put, List.getElem_toArray, List.getElem_cons_zero, List.getElem_cons_succ, List.setIfInBounds_toArray, List.set_cons_zero, List.set_cons_succ]
          clear hs hg
          obtain ⟨V0, hV0⟩ : ∃ V0, V0 = V1 := ⟨_, rfl⟩
          subst hV0
          refine wpAnyH_take (i := 11) (oi := _) (v := ?_) rfl (by kernel_rfl) (by kernel_rfl) (by kernel_rfl) (fun _ _ _ h => h) (Or.inl ⟨by rfl, ?_⟩) (by with_reducible assumption) ?_
          rotate_left
          · intro Wz hSw
            clear hSw
            go_simp
            all_goals (with_reducible rfl)
          try simp only [Act.put, List.getElem_toArray, List.getElem_cons_zero, List.getElem_cons_succ, List.setIfInBounds_toArray, List.set_cons_zero, List.set_cons_succ]
          refine wpAnyH_take (i := 12) (oi := _) (v := ?_) rfl (by kernel_rfl) (by kernel_rfl) (by kernel_rfl) (fun _ _ _ h => h) (Or.inl ⟨by rfl, ?_⟩) (by with_reducible assumption) ?_
          rotate_left
          · intro Wz hSw
            have hw := hSw r2 hr2
            clear hSw
            go_simp
            all_goals (with_reducible rfl)
          try simp only [Act.put, List.getElem_toArray, List.getElem_cons_zero, List.getElem_cons_succ, List.setIfInBounds_toArray, List.set_cons_zero, List.set_cons_succ]
          refine wpAnyH_ready (rs := [14]) (by kernel_rfl) (by simp) ?_
          refine AllReadyH.cons (o := _) rfl (fun K hK => ?_) AllReadyH.nil
          go_simp
          refine (KM.out (k + 1 + 1 + 1) (by omega) _ LL.out.src).mono ?_
          rintro e V1 ⟨x, m, q, l, A, N, C, k5, rfl, hG5, hm5, hD5, hk5, hs, hg⟩
          have LN := Lib.hid (LL.out.call hs hg)
          have BN := Lib.hid (BX.out.grown hg (by have := LL.out.hb; intro e; injection e with e; omega))
          have hxs : xp < V0.heap.size ∨ V1.heap.size ≤ xp := .inl BX.out.lt
          have GM := Lib.hid hG5
          have HD5 := Lib.hid hD5
          have hBV : w.heap.size < V0.heap.size := by have := LL.out.hz; omega
          clear hG5 hD5
          clear LL
          have LL := LN
          clear LN
          clear BX
          have BX := BN
          clear BN
          go_wp2_with fail
          refine hK.out _ _ ?_ (fun hHeld => ?_)
          · exact LL.out.wf
          clear hK K
          try simp only [Act.put, List.getElem_toArray, List.getElem_cons_zero, List.getElem_cons_succ, List.setIfInBounds_toArray, List.set_cons_zero, List.set_cons_succ]
          clear hs hg
          have DD := Lib.hid (⟨LL.out.hb, hxz, LL.out.res, BX.out, LL.out.src, LL.out.gr, Only.refl V1⟩ : D7 w V1 V1 b a n c xs k5 xp (.int .i64 0) (.string ⟨#[]⟩) (.string ⟨#[]⟩) (.int .i64 0) (.string ⟨#[]⟩) (.int .i64 0) (.slice none 0 0))
          refine wpAnyH_take (i := 15) (oi := _) (v := ?_) rfl (by kernel_rfl) (by kernel_rfl) (by kernel_rfl) (fun _ _ _ h => h) (Or.inl ⟨by rfl, ?_⟩) (by with_reducible assumption) ?_
          rotate_left
          · intro Wz hSw
            clear hSw
            go_simp
            all_goals (with_reducible rfl)
          try simp only [Act.put, List.getElem_toArray, List.getElem_cons_zero, List.getElem_cons_succ, List.setIfInBounds_toArray, List.set_cons_zero, List.set_cons_succ]
          have e0 := DD.out.box.c0
          have e1 := DD.out.box.c1
          have e2 := DD.out.box.c2
          have e3 := DD.out.box.c3
          have e4 := DD.out.box.c4
          have e5 := DD.out.box.c5
          have e6 := DD.out.box.c6
          have g0 := DD.out.box.fz 0 (by decide)
          have g1 := DD.out.box.fz 1 (by decide)
          have g2 := DD.out.box.fz 2 (by decide)
          have g3 := DD.out.box.fz 3 (by decide)
          have g4 := DD.out.box.fz 4 (by decide)
          have g5 := DD.out.box.fz 5 (by decide)
          have g6 := DD.out.box.fz 6 (by decide)
          have D9 := Lib.hid (DD.out.fill (.int .i64 d) (.string (f r1)) (.string (f r2)) (.int .i64 0) (.string ⟨#[]⟩) (.int .i64 0) (.slice (some x) m q))
          have HF9 := Lib.hid (wAtS (wAtS (wAtS (wAtS (wAtS (wAtS (wAtS LL.out.wf hxw 0 (.int .i64 d)) hxw 1 (.string (f r1))) hxw 2 (.string (f r2))) hxw 3 (.int .i64 0)) hxw 4 (.string ⟨#[]⟩)) hxw 5 (.int .i64 0)) hxw 6 (.slice (some x) m q))
          refine wpAnyH_ready (rs := [17]) (by kernel_rfl) (by simp) ?_
          refine AllReadyH.cons (o := _) rfl (fun K hK => ?_) AllReadyH.nil
          go_simp
          refine hK.out _ _ ?_ (fun hHeld => ?_)
          · exact (fun r hr => HF9.out r hr)
          clear hK K
          try simp only [Act.put, List.getElem_toArray, List.getElem_cons_zero, List.getElem_cons_succ, List.setIfInBounds_toArray, List.set_cons_zero, List.set_cons_succ]
          refine wpAnyH_done (by kernel_rfl) ?_ _
          refine NoPanic.normal ?_
          go_wp2_with fail
          go_meet
          exact ⟨xp, d, r1, r2, x, m, q, l, A, N, C, k5, _, _, rfl, hd.1, hd.2, hr1, hr2, by omega, hm5, D9, GM, HD5, hBV, hxs⟩
      · have LN := Lib.hid (LL.out.below (below1 V0 (.cells #[.int .i64 0, .string ⟨#[]⟩, .string ⟨#[]⟩, .int .i64 0, .string ⟨#[]⟩, .int .i64 0, .slice none 0 0] 26)))
        have BX := Lib.hid (X7.new V0 26 (.int .i64 0) (.string ⟨#[]⟩) (.string ⟨#[]⟩) (.int .i64 0) (.string ⟨#[]⟩) (.int .i64 0) (.slice none 0 0))
        have HRN := Lib.hid (HR.out.below (below1 V0 (.cells #[.int .i64 0, .string ⟨#[]⟩, .string ⟨#[]⟩, .int .i64 0, .string ⟨#[]⟩, .int .i64 0, .slice none 0 0] 26)))
        have hxw : w.heap.size + 1 ≠ V0.heap.size := by have := LL.out.hz; omega
        have hxz : w.heap.size < V0.heap.size := by have := LL.out.hz; omega
        go_simp
        refine hK.out _ _ ?_ (fun hHeld => ?_)
        · exact LN.out.wf
        clear hK K
        try simp only [Act.put, List.getElem_toArray, List.getElem_cons_zero, List.getElem_cons_succ, List.setIfInBounds_toArray, List.set_cons_zero, List.set_cons_succ]
        clear LL
        have LL := LN
        clear LN
        clear HR
        have HR := HRN
        clear HRN
        generalize V0.heap.size = xp at BX hxw hxz ⊢
        generalize V0.alloc (.cells #[.int .i64 0, .string ⟨#[]⟩, .string ⟨#[]⟩, .int .i64 0, .string ⟨#[]⟩, .int .i64 0, .slice none 0 0] 26) = V1 at *
        obtain ⟨V0, hV0⟩ : ∃ V0, V0 = V1 := ⟨_, rfl⟩
        subst hV0
        refine wpAnyH_ready (rs := [2]) (by kernel_rfl) (by simp) ?_
        refine AllReadyH.cons (o := _) rfl (fun K hK => ?_) AllReadyH.nil
        have KP := l1Pick_any b a n c xs k lb 9 _ rfl (by decide) (by decide) (by omega) _ LL.out.src HR.out hlb
        unfold PickRes at KP
        go_simp
        refine KP.mono ?_
        clear KP HR
        rintro e V1 ⟨d, rfl, hdm, hs, hg⟩
        have LN := Lib.hid (LL.out.call hs hg)
        have BN := Lib.hid (BX.out.grown hg (by have := LL.out.hb; intro e; injection e with e; omega))
        have hd : 0 ≤ d ∧ d ≤ 6 := by
          simp only [List.mem_cons, List.not_mem_nil, or_false] at hdm
          omega
        clear hdm
        clear LL
        have LL := LN
        clear LN
        clear BX
        have BX := BN
        clear BN
        go_wp2_with fail
        refine hK.out _ _ ?_ (fun hHeld => ?_)
        · exact LL.out.wf
        clear hK K
        try simp only [Act.put, List.getElem_toArray, List.getElem_cons_zero, List.getElem_cons_succ, List.setIfInBounds_toArray, List.set_cons_zero, List.set_cons_succ]
        clear hs hg
        obtain ⟨V0, hV0⟩ : ∃ V0, V0 = V1 := ⟨_, rfl⟩
        subst hV0
        refine wpAnyH_ready (rs := [5]) (by kernel_rfl) (by simp) ?_
        refine AllReadyH.cons (o := _) rfl (fun K hK => ?_) AllReadyH.nil
        go_simp
        refine (KN.out (k + 1) 4 (by decide) (by decide) (by omega) _ LL.out.src).mono ?_
        rintro e V1 ⟨r1, rfl, hr1, hs, hg⟩
        have hr1 : r1 < 4 := by have := hr1 (by decide); omega
        have LN := Lib.hid (LL.out.call hs hg)
        have BN := Lib.hid (BX.out.grown hg (by have := LL.out.hb; intro e; injection e with e; omega))
        clear LL
        have LL := LN
        clear LN
        clear BX
        have BX := BN
        clear BN
        go_wp2_with fail
        refine hK.out _ _ ?_ (fun hHeld => ?_)
        · exact LL.out.wf
        clear hK K
        try simp only [Act.put, List.getElem_toArray, List.getElem_cons_zero, List.getElem_cons_succ, List.setIfInBounds_toArray, List.set_cons_zero, List.set_cons_succ]
        clear hs hg
        obtain ⟨V0, hV0⟩ : ∃ V0, V0 = V1 := ⟨_, rfl⟩
        subst hV0
        refine wpAnyH_take (i := 6) (oi := _) (v := ?_) rfl (by kernel_rfl) (by kernel_rfl) (by kernel_rfl) (fun _ _ _ h => h) (Or.inl ⟨by rfl, ?_⟩) (by with_reducible assumption) ?_
        rotate_left
        · intro Wz hSw
          clear hSw
          go_simp
          all_goals (with_reducible rfl)
        try simp only [Act.put, List.getElem_toArray, List.getElem_cons_zero, List.getElem_cons_succ, List.setIfInBounds_toArray, List.set_cons_zero, List.set_cons_succ]
        refine wpAnyH_take (i := 7) (oi := _) (v := ?_) rfl (by kernel_rfl) (by kernel_rfl) (by kernel_rfl) (fun _ _ _ h => h) (Or.inl ⟨by rfl, ?_⟩) (by with_reducible assumption) ?_
        rotate_left
        · intro Wz hSw
          have hw := hSw r1 hr1
          clear hSw
          go_simp
          all_goals (with_reducible rfl)
        try simp only [Act.put, List.getElem_toArray, List.getElem_cons_zero, List.getElem_cons_succ, List.setIfInBounds_toArray, List.set_cons_zero, List.set_cons_succ]
        refine wpAnyH_ready (rs := [10]) (by kernel_rfl) (by simp) ?_
        refine AllReadyH.cons (o := _) rfl (fun K hK => ?_) AllReadyH.nil
        go_simp
        refine (KN.out (k + 1 + 1) 4 (by decide) (by decide) (by omega) _ LL.out.src).mono ?_
        rintro e V1 ⟨r2, rfl, hr2, hs, hg⟩
        have hr2 : r2 < 4 := by have := hr2 (by decide); omega
        have LN := Lib.hid (LL.out.call hs hg)
        have BN := Lib.hid (BX.out.grown hg (by have := LL.out.hb; intro e; injection e with e; omega))
        clear LL
        have LL := LN
        clear LN
        clear BX
        have BX := BN
        clear BN
        go_wp2_with fail
        refine hK.out _ _ ?_ (fun hHeld => ?_)
        · exact LL.out.wf
        clear hK K
        try simp only [Act.put, List.getElem_toArray, List.getElem_cons_zero, List.getElem_cons_succ, List.setIfInBounds_toArray, List.set_cons_zero, List.set_cons_succ]
        clear hs hg
        obtain ⟨V0, hV0⟩ : ∃ V0, V0 = V1 := ⟨_, rfl⟩
        subst hV0
        refine wpAnyH_take (i := 11) (oi := _) (v := ?_) rfl (by kernel_rfl) (by kernel_rfl) (by kernel_rfl) (fun _ _ _ h => h) (Or.inl ⟨by rfl, ?_⟩) (by with_reducible assumption) ?_
        rotate_left
        · intro Wz hSw
          clear hSw
          go_simp
          all_goals (with_reducible rfl)
        try simp only [Act.put, List.getElem_toArray, List.getElem_cons_zero, List.getElem_cons_succ, List.setIfInBounds_toArray, List.set_cons_zero, List.set_cons_succ]
        refine wpAnyH_take (i := 12) (oi := _) (v := ?_) rfl (by kernel_rfl) (by kernel_rfl) (by kernel_rfl) (fun _ _ _ h => h) (Or.inl ⟨by rfl, ?_⟩) (by with_reducible assumption) ?_
        rotate_left
        · intro Wz hSw
          have hw := hSw r2 hr2
          clear hSw
          go_simp
          all_goals (with_reducible rfl)
        try simp only [Act.put, List.getElem_toArray, List.getElem_cons_zero, List.getElem_cons_succ, List.setIfInBounds_toArray, List.set_cons_zero, List.set_cons_succ]
        refine wpAnyH_ready (rs := [14]) (by kernel_rfl) (by simp) ?_
        refine AllReadyH.cons (o := _) rfl (fun K hK => ?_) AllReadyH.nil
        go_simp
        refine (KM.out (k + 1 + 1 + 1) (by omega) _ LL.out.src).mono ?_
        rintro e V1 ⟨x, m, q, l, A, N, C, k5, rfl, hG5, hm5, hD5, hk5, hs, hg⟩
        have LN := Lib.hid (LL.out.call hs hg)
        have BN := Lib.hid (BX.out.grown hg (by have := LL.out.hb; intro e; injection e with e; omega))
        have hxs : xp < V0.heap.size ∨ V1.heap.size ≤ xp := .inl BX.out.lt
        have GM := Lib.hid hG5
        have HD5 := Lib.hid hD5
        have hBV : w.heap.size < V0.heap.size := by have := LL.out.hz; omega
        clear hG5 hD5
        clear LL
        have LL := LN
        clear LN
        clear BX
        have BX := BN
        clear BN
        go_wp2_with fail
        refine hK.out _ _ ?_ (fun hHeld => ?_)
        · exact LL.out.wf
        clear hK K
        try simp only [Act.put, List.getElem_toArray, List.getElem_cons_zero, List.getElem_cons_succ, List.setIfInBounds_toArray, List.set_cons_zero, List.set_cons_succ]
        clear hs hg
        have DD := Lib.hid (⟨LL.out.hb, hxz, LL.out.res, BX.out, LL.out.src, LL.out.gr, Only.refl V1⟩ : D7 w V1 V1 b a n c xs k5 xp (.int .i64 0) (.string ⟨#[]⟩) (.string ⟨#[]⟩) (.int .i64 0) (.string ⟨#[]⟩) (.int .i64 0) (.slice none 0 0))
        refine wpAnyH_take (i := 15) (oi := _) (v := ?_) rfl (by kernel_rfl) (by kernel_rfl) (by kernel_rfl) (fun _ _ _ h => h) (Or.inl ⟨by rfl, ?_⟩) (by with_reducible assumption) ?_
        rotate_left
        · intro Wz hSw
          clear hSw
          go_simp
          all_goals (with_reducible rfl)
        try simp only [Act.put, List.getElem_toArray, List.getElem_cons_zero, List.getElem_cons_succ, List.setIfInBounds_toArray, List.set_cons_zero, List.set_cons_succ]
        have e0 := DD.out.box.c0
        have e1 := DD.out.box.c1
        have e2 := DD.out.box.c2
        have e3 := DD.out.box.c3
        have e4 := DD.out.box.c4
        have e5 := DD.out.box.c5
        have e6 := DD.out.box.c6
        have g0 := DD.out.box.fz 0 (by decide)
        have g1 := DD.out.box.fz 1 (by decide)
        have g2 := DD.out.box.fz 2 (by decide)
        have g3 := DD.out.box.fz 3 (by decide)
        have g4 := DD.out.box.fz 4 (by decide)
        have g5 := DD.out.box.fz 5 (by decide)
        have g6 := DD.out.box.fz 6 (by decide)
        have D9 := Lib.hid (DD.out.fill (.int .i64 d) (.string (f r1)) (.string (f r2)) (.int .i64 0) (.string ⟨#[]⟩) (.int .i64 0) (.slice (some x) m q))
        have HF9 := Lib.hid (wAtS (wAtS (wAtS (wAtS (wAtS (wAtS (wAtS LL.out.wf hxw 0 (.int .i64 d)) hxw 1 (.string (f r1))) hxw 2 (.string (f r2))) hxw 3 (.int .i64 0)) hxw 4 (.string ⟨#[]⟩)) hxw 5 (.int .i64 0)) hxw 6 (.slice (some x) m q))
        refine wpAnyH_ready (rs := [17]) (by kernel_rfl) (by simp) ?_
        refine AllReadyH.cons (o := _) rfl (fun K hK => ?_) AllReadyH.nil
        go_simp
        refine hK.out _ _ ?_ (fun hHeld => ?_)
        · exact (fun r hr => HF9.out r hr)
        clear hK K
        try simp only [Act.put, List.getElem_toArray, List.getElem_cons_zero, List.getElem_cons_succ, List.setIfInBounds_toArray, List.set_cons_zero, List.set_cons_succ]
        refine wpAnyH_done (by kernel_rfl) ?_ _
        refine NoPanic.normal ?_
        go_wp2_with fail
        go_meet
        exact ⟨xp, d, r1, r2, x, m, q, l, A, N, C, k5, _, _, rfl, hd.1, hd.2, hr1, hr2, by omega, hm5, D9, GM, HD5, hBV, hxs⟩
    · have LN := Lib.hid (LL.out.below (below1 V0 (.cells #[.int .i64 0, .string ⟨#[]⟩, .string ⟨#[]⟩, .int .i64 0, .string ⟨#[]⟩, .int .i64 0, .slice none 0 0] 26)))
      have BX := Lib.hid (X7.new V0 26 (.int .i64 0) (.string ⟨#[]⟩) (.string ⟨#[]⟩) (.int .i64 0) (.string ⟨#[]⟩) (.int .i64 0) (.slice none 0 0))
      have hxw : w.heap.size + 1 ≠ V0.heap.size := by have := LL.out.hz; omega
      have hxz : w.heap.size < V0.heap.size := by have := LL.out.hz; omega
      go_simp
      refine hK.out _ _ ?_ (fun hHeld => ?_)
      · exact LN.out.wf
      clear hK K
      try simp only [Act.put, List.getElem_toArray, List.getElem_cons_zero, List.getElem_cons_succ, List.setIfInBounds_toArray, List.set_cons_zero, List.set_cons_succ]
      clear LL
      have LL := LN
      clear LN
      generalize V0.heap.size = xp at BX hxw hxz ⊢
      generalize V0.alloc (.cells #[.int .i64 0, .string ⟨#[]⟩, .string ⟨#[]⟩, .int .i64 0, .string ⟨#[]⟩, .int .i64 0, .slice none 0 0] 26) = V1 at *
      obtain ⟨V0, hV0⟩ : ∃ V0, V0 = V1 := ⟨_, rfl⟩
      subst hV0
      refine wpAnyH_ready (rs := [1]) (by kernel_rfl) (by simp) ?_
      refine AllReadyH.cons (o := _) rfl (fun K hK => ?_) AllReadyH.nil
      have LN := Lib.hid (LL.out.below (below1 V0 (.cells #[.int .i64 0, .int .i64 0, .int .i64 0, .int .i64 1, .int .i64 2, .int .i64 3, .int .i64 4, .int .i64 5, .int .i64 6] 2)))
      have HR : Hid (Row (V0.alloc (.cells #[.int .i64 0, .int .i64 0, .int .i64 0, .int .i64 1, .int .i64 2, .int .i64 3, .int .i64 4, .int .i64 5, .int .i64 6] 2)) .i64 (.slice (some ⟨V0.heap.size, 0, none⟩) 9 9) [0, 0, 0, 1, 2, 3, 4, 5, 6]) := Lib.hid (lit_row V0 2 .i64 [0, 0, 0, 1, 2, 3, 4, 5, 6] 9 rfl (by decide))
      have hlb : V0.heap.size ≠ b := by have := LL.out.hz; have := LL.out.hb; omega
      have BN := Lib.hid (BX.out.below (below1 V0 (.cells #[.int .i64 0, .int .i64 0, .int .i64 0, .int .i64 1, .int .i64 2, .int .i64 3, .int .i64 4, .int .i64 5, .int .i64 6] 2)))
      go_simp
      refine hK.out _ _ ?_ (fun hHeld => ?_)
      · exact LN.out.wf
      clear hK K
      try simp only [Act.put, List.getElem_toArray, List.getElem_cons_zero, List.getElem_cons_succ, List.setIfInBounds_toArray, List.set_cons_zero, List.set_cons_succ]
      clear LL
      have LL := LN
      clear LN
      clear BX
      have BX := BN
      clear BN
      generalize V0.heap.size = lb at HR hlb ⊢
      generalize V0.alloc (.cells #[.int .i64 0, .int .i64 0, .int .i64 0, .int .i64 1, .int .i64 2, .int .i64 3, .int .i64 4, .int .i64 5, .int .i64 6] 2) = V1 at *
      obtain ⟨V0, hV0⟩ : ∃ V0, V0 = V1 := ⟨_, rfl⟩
      subst hV0
      refine wpAnyH_ready (rs := [2]) (by kernel_rfl) (by simp) ?_
      refine AllReadyH.cons (o := _) rfl (fun K hK => ?_) AllReadyH.nil
      have KP := l1Pick_any b a n c xs k lb 9 _ rfl (by decide) (by decide) (by omega) _ LL.out.src HR.out hlb
      unfold PickRes at KP
      go_simp
      refine KP.mono ?_
      clear KP HR
      rintro e V1 ⟨d, rfl, hdm, hs, hg⟩
      have LN := Lib.hid (LL.out.call hs hg)
      have BN := Lib.hid (BX.out.grown hg (by have := LL.out.hb; intro e; injection e with e; omega))
      have hd : 0 ≤ d ∧ d ≤ 6 := by
        simp only [List.mem_cons, List.not_mem_nil, or_false] at hdm
        omega
      clear hdm
      clear LL
      have LL := LN
      clear LN
      clear BX
      have BX := BN
      clear BN
      go_wp2_with fail
      refine hK.out _ _ ?_ (fun hHeld => ?_)
      · exact LL.out.wf
      clear hK K
      try simp only [Act.put, List.getElem_toArray, List.getElem_cons_zero, List.getElem_cons_succ, List.setIfInBounds_toArray, List.set_cons_zero, List.set_cons_succ]
      clear hs hg
      obtain ⟨V0, hV0⟩ : ∃ V0, V0 = V1 := ⟨_, rfl⟩
      subst hV0
      refine wpAnyH_ready (rs := [5]) (by kernel_rfl) (by simp) ?_
      refine AllReadyH.cons (o := _) rfl (fun K hK => ?_) AllReadyH.nil
      go_simp
      refine (KN.out (k + 1) 4 (by decide) (by decide) (by omega) _ LL.out.src).mono ?_
      rintro e V1 ⟨r1, rfl, hr1, hs, hg⟩
      have hr1 : r1 < 4 := by have := hr1 (by decide); omega
      have LN := Lib.hid (LL.out.call hs hg)
      have BN := Lib.hid (BX.out.grown hg (by have := LL.out.hb; intro e; injection e with e; omega))
      clear LL
      have LL := LN
      clear LN
      clear BX
      have BX := BN
      clear BN
      go_wp2_with fail
      refine hK.out _ _ ?_ (fun hHeld => ?_)
      · exact LL.out.wf
      clear hK K
      try simp only [Act.put, List.getElem_toArray, List.getElem_cons_zero, List.getElem_cons_succ, List.setIfInBounds_toArray, List.set_cons_zero, List.set_cons_succ]
      clear hs hg
      obtain ⟨V0, hV0⟩ : ∃ V0, V0 = V1 := ⟨_, rfl⟩
      subst hV0
      refine wpAnyH_take (i := 6) (oi := _) (v := ?_) rfl (by kernel_rfl) (by kernel_rfl) (by kernel_rfl) (fun _ _ _ h => h) (Or.inl ⟨by rfl, ?_⟩) (by with_reducible assumption) ?_
      rotate_left
      · intro Wz hSw
        clear hSw
        go_simp
        all_goals (with_reducible rfl)
      try simp only [Act.put, List.getElem_toArray, List.getElem_cons_zero, List.getElem_cons_succ, List.setIfInBounds_toArray, List.set_cons_zero, List.set_cons_succ]
      refine wpAnyH_take (i := 7) (oi := _) (v := ?_) rfl (by kernel_rfl) (by kernel_rfl) (by kernel_rfl) (fun _ _ _ h => h) (Or.inl ⟨by rfl, ?_⟩) (by with_reducible assumption) ?_
      rotate_left
      · intro Wz hSw
        have hw := hSw r1 hr1
        clear hSw
        go_simp
        all_goals (with_reducible rfl)
      try simp only [Act.put, List.getElem_toArray, List.getElem_cons_zero, List.getElem_cons_succ, List.setIfInBounds_toArray, List.set_cons_zero, List.set_cons_succ]
      refine wpAnyH_ready (rs := [10]) (by kernel_rfl) (by simp) ?_
      refine AllReadyH.cons (o := _) rfl (fun K hK => ?_) AllReadyH.nil
      go_simp
      refine (KN.out (k + 1 + 1) 4 (by decide) (by decide) (by omega) _ LL.out.src).mono ?_
      rintro e V1 ⟨r2, rfl, hr2, hs, hg⟩
      have hr2 : r2 < 4 := by have := hr2 (by decide); omega
      have LN := Lib.hid (LL.out.call hs hg)
      have BN := Lib.hid (BX.out.grown hg (by have := LL.out.hb; intro e; injection e with e; omega))
      clear LL
      have LL := LN
      clear LN
      clear BX
      have BX := BN
      clear BN
      go_wp2_with fail
      refine hK.out _ _ ?_ (fun hHeld => ?_)
      · exact LL.out.wf
      clear hK K
      try simp only [Act.put, List.getElem_toArray, List.getElem_cons_zero, List.getElem_cons_succ, List.setIfInBounds_toArray, List.set_cons_zero, List.set_cons_succ]
      clear hs hg
      obtain ⟨V0, hV0⟩ : ∃ V0, V0 = V1 := ⟨_, rfl⟩
      subst hV0
      refine wpAnyH_take (i := 11) (oi := _) (v := ?_) rfl (by kernel_rfl) (by kernel_rfl) (by kernel_rfl) (fun _ _ _ h => h) (Or.inl ⟨by rfl, ?_⟩) (by with_reducible assumption) ?_
      rotate_left
      · intro Wz hSw
        clear hSw
        go_simp
        all_goals (with_reducible rfl)
      try simp only [Act.put, List.getElem_toArray, List.getElem_cons_zero, List.getElem_cons_succ, List.setIfInBounds_toArray, List.set_cons_zero, List.set_cons_succ]
      refine wpAnyH_take (i := 12) (oi := _) (v := ?_) rfl (by kernel_rfl) (by kernel_rfl) (by kernel_rfl) (fun _ _ _ h => h) (Or.inl ⟨by rfl, ?_⟩) (by with_reducible assumption) ?_
      rotate_left
      · intro Wz hSw
        have hw := hSw r2 hr2
        clear hSw
        go_simp
        all_goals (with_reducible rfl)
      try simp only [Act.put, List.getElem_toArray, List.getElem_cons_zero, List.getElem_cons_succ, List.setIfInBounds_toArray, List.set_cons_zero, List.set_cons_succ]
      refine wpAnyH_ready (rs := [14]) (by kernel_rfl) (by simp) ?_
      refine AllReadyH.cons (o := _) rfl (fun K hK => ?_) AllReadyH.nil
      go_simp
      refine (KM.out (k + 1 + 1 + 1) (by omega) _ LL.out.src).mono ?_
      rintro e V1 ⟨x, m, q, l, A, N, C, k5, rfl, hG5, hm5, hD5, hk5, hs, hg⟩
      have LN := Lib.hid (LL.out.call hs hg)
      have BN := Lib.hid (BX.out.grown hg (by have := LL.out.hb; intro e; injection e with e; omega))
      have hxs : xp < V0.heap.size ∨ V1.heap.size ≤ xp := .inl BX.out.lt
      have GM := Lib.hid hG5
      have HD5 := Lib.hid hD5
      have hBV : w.heap.size < V0.heap.size := by have := LL.out.hz; omega
      clear hG5 hD5
      clear LL
      have LL := LN
      clear LN
      clear BX
      have BX := BN
      clear BN
      go_wp2_with fail
      refine hK.out _ _ ?_ (fun hHeld => ?_)
      · exact LL.out.wf
      clear hK K
      try simp only [Act.put, List.getElem_toArray, List.getElem_cons_zero, List.getElem_cons_succ, List.setIfInBounds_toArray, List.set_cons_zero, List.set_cons_succ]
      clear hs hg
      have DD := Lib.hid (⟨LL.out.hb, hxz, LL.out.res, BX.out, LL.out.src, LL.out.gr, Only.refl V1⟩ : D7 w V1 V1 b a n c xs k5 xp (.int .i64 0) (.string ⟨#[]⟩) (.string ⟨#[]⟩) (.int .i64 0) (.string ⟨#[]⟩) (.int .i64 0) (.slice none 0 0))
      refine wpAnyH_take (i := 15) (oi := _) (v := ?_) rfl (by kernel_rfl) (by kernel_rfl) (by kernel_rfl) (fun _ _ _ h => h) (Or.inl ⟨by rfl, ?_⟩) (by with_reducible assumption) ?_
      rotate_left
      · intro Wz hSw
        clear hSw
        go_simp
        all_goals (with_reducible rfl)
      try simp only [Act.put, List.getElem_toArray, List.getElem_cons_zero, List.getElem_cons_succ, List.setIfInBounds_toArray, List.set_cons_zero, List.set_cons_succ]
      have e0 := DD.out.box.c0
      have e1 := DD.out.box.c1
      have e2 := DD.out.box.c2
      have e3 := DD.out.box.c3
      have e4 := DD.out.box.c4
      have e5 := DD.out.box.c5
      have e6 := DD.out.box.c6
      have g0 := DD.out.box.fz 0 (by decide)
      have g1 := DD.out.box.fz 1 (by decide)
      have g2 := DD.out.box.fz 2 (by decide)
      have g3 := DD.out.box.fz 3 (by decide)
      have g4 := DD.out.box.fz 4 (by decide)
      have g5 := DD.out.box.fz 5 (by decide)
      have g6 := DD.out.box.fz 6 (by decide)
      have D9 := Lib.hid (DD.out.fill (.int .i64 d) (.string (f r1)) (.string (f r2)) (.int .i64 0) (.string ⟨#[]⟩) (.int .i64 0) (.slice (some x) m q))
      have HF9 := Lib.hid (wAtS (wAtS (wAtS (wAtS (wAtS (wAtS (wAtS LL.out.wf hxw 0 (.int .i64 d)) hxw 1 (.string (f r1))) hxw 2 (.string (f r2))) hxw 3 (.int .i64 0)) hxw 4 (.string ⟨#[]⟩)) hxw 5 (.int .i64 0)) hxw 6 (.slice (some x) m q))
      refine wpAnyH_ready (rs := [17]) (by kernel_rfl) (by simp) ?_
      refine AllReadyH.cons (o := _) rfl (fun K hK => ?_) AllReadyH.nil
      go_simp
      refine hK.out _ _ ?_ (fun hHeld => ?_)
      · exact (fun r hr => HF9.out r hr)
      clear hK K
      try simp only [Act.put, List.getElem_toArray, List.getElem_cons_zero, List.getElem_cons_succ, List.setIfInBounds_toArray, List.set_cons_zero, List.set_cons_succ]
      refine wpAnyH_done (by kernel_rfl) ?_ _
      refine NoPanic.normal ?_
      go_wp2_with fail
      go_meet
      exact ⟨xp, d, r1, r2, x, m, q, l, A, N, C, k5, _, _, rfl, hd.1, hd.2, hr1, hr2, by omega, hm5, D9, GM, HD5, hBV, hxs⟩
  case rest =>
    obtain ⟨xp, d, r1, r2, x, m, q, l, A, N, C, k5, B, V, rfl, hd0, hd6, hr1, hr2, hk5, hm5, DD, GM, HD5, hBV, hxs⟩ := hcut
    clear LL KM
    have hs1 := hfs r1 hr1
    have hs2 := hfs r2 hr2
    have hl5 := GM.out.len
    generalize f r1 = f1 at *
    generalize f r2 = f2 at *
    have d0 := DD.out.box.c0
    have lx := DD.out.box.lt
    by_cases hd1 : d ≤ 1
    · go_wp2_with fail
      refine (KD.out k5 (by omega) _ DD.out.src).mono ?_
      rintro e w1 ⟨s, k6, rfl, hs, hk6, hsr, hg⟩
      have D1 := Lib.hid (DD.out.call hsr hg)
      have g4 := D1.out.box.fz 4 (by decide)
      have c4 := D1.out.box.c4
      have D2 := Lib.hid (D1.out.set 4 (.string s) (by decide) ⟨rfl, rfl, rfl, rfl, rfl, rfl, rfl⟩)
      clear hsr hg d0 lx
      have lx := D1.out.box.lt
      have d0 := D2.out.box.c0
      have b0 := D1.out.box.c0
      by_cases hd2 : d = 0
      · subst hd2
        go_wp2_with fail
        refine (KN.out k6 5 (by decide) (by decide) (by omega) _ D2.out.src).mono ?_
        rintro e w3 ⟨r3, rfl, hr3, hsr, hg⟩
        have hr3 : r3 < 5 := by have := hr3 (by decide); omega
        have D3 := Lib.hid (D2.out.call hsr hg)
        have g3 := D3.out.box.fz 3 (by decide)
        have c3 := D3.out.box.c3
        have D4 := Lib.hid (D3.out.set 3 (.int .i64 r3) (by decide) ⟨rfl, rfl, rfl, rfl, rfl, rfl, rfl⟩)
        clear hsr hg d0 lx b0
        have lx := D4.out.box.lt
        have lx3 := D3.out.box.lt
        generalize hw4 : w3.setCell ⟨xp, 3, none⟩ (.int .i64 r3) = w4 at D4 lx
        have KP := l1Pick_any b a n c xs (k6 + 1) w4.heap.size 7 [0, 1, -1, 127, -128, 64, 5] rfl (by decide) (by decide) (by omega) _ (D4.out.src.alloc (.cells #[.int .i64 0, .int .i64 1, .int .i64 (-1), .int .i64 127, .int .i64 (-128), .int .i64 64, .int .i64 5] 2)) (lit_row w4 _ .i64 [0, 1, -1, 127, -128, 64, 5] 7 rfl (by decide)) (by have := D4.out.src.lt; omega)
        unfold PickRes at KP
        go_wp2_with fail
        clear hw4
        refine KP.mono ?_
        clear KP
        rintro e w5 ⟨pr, rfl, hpr, hsr, hg⟩
        have hpr : -128 ≤ pr ∧ pr ≤ 127 := by
          simp only [List.mem_cons, List.not_mem_nil, or_false] at hpr
          omega
        have D5 := Lib.hid ((D4.out.below (below1 w4 (.cells #[.int .i64 0, .int .i64 1, .int .i64 (-1), .int .i64 127, .int .i64 (-128), .int .i64 64, .int .i64 5] 2))).call hsr hg)
        have c5 := D5.out.box.c5
        have g5 := D5.out.box.fz 5 (by decide)
        have D6 := Lib.hid (D5.out.set 5 (.int .i64 pr) (by decide) ⟨rfl, rfl, rfl, rfl, rfl, rfl, rfl⟩)
        have lx5 := D5.out.box.lt
        clear hsr hg g3 c3 lx lx3 g4 c4
        go_upto_region 8 with fail
        generalize w5.setCell ⟨xp, 5, none⟩ (.int .i64 pr) = w6 at *
        clear c5 g5 lx5
        obtain ⟨-, d0, d1, d2, d3, d4, d5, d6, -⟩ := D6.out.box
        obtain ⟨-, e0, e1, e2, e3, e4, e5, e6, -⟩ := D6.out.res
        have g0 := D6.out.res.fz 0 (by decide)
        have g1 := D6.out.res.fz 1 (by decide)
        have g2 := D6.out.res.fz 2 (by decide)
        have g3 := D6.out.res.fz 3 (by decide)
        have g4 := D6.out.res.fz 4 (by decide)
        have g5 := D6.out.res.fz 5 (by decide)
        have g6 := D6.out.res.fz 6 (by decide)
        obtain ⟨Zx, Zs, Zg, Zo⟩ := D6.out.done
        have z0 := Zx.c0
        have z1 := Zx.c1
        have z2 := Zx.c2
        have z3 := Zx.c3
        have z4 := Zx.c4
        have z5 := Zx.c5
        have z6 := Zx.c6
        have GI := Lib.hid (D7.its GM.out Zo D6.out.hb hBV hxs)
        have ZS := Lib.hid Zs
        have ZG := Lib.hid Zg
        clear Zx Zo Zs Zg
        go_wp2
        refine bodyPost_ret (v := .agg #[.int .i64 0, .string f1, .string f2, .int .i64 r3, .string s, .int .i64 pr, .slice (some x) m q]) (by simp [results, Tryz.results56, go_sem, z0, z1, z2, z3, z4, z5, z6, e0, e1, e2, e3, e4, e5, e6]) rfl (by unfold PrDrawn; exact ⟨⟨0, f1, f2, r3, s, pr, l⟩, x, m, q, A, N, C, k6 + 1 + 1, rfl, GI.out, hm5, ⟨⟨by show -1000 ≤ (0 : Int); omega, by show (0 : Int) ≤ 1000; omega⟩, by show f1.size ≤ 61; omega, by show f2.size ≤ 61; omega, ⟨by show -1000 ≤ (r3 : Int); omega, by show (r3 : Int) ≤ 1000; omega⟩, by show s.size ≤ 61; omega, ⟨by show -1000 ≤ (pr : Int); omega, by show (pr : Int) ≤ 1000; omega⟩, by show l.length ≤ 60; omega, HD5.out⟩, by omega, ZS.out, ZG.out⟩)
      · have hd3 : ¬ (d = 0) := hd2
        have hd4 : (d == 0) = false := by rw [beq_eq_false_iff_ne]; exact hd2
        go_upto_region 8 with fail
        generalize w1.setCell ⟨xp, 4, none⟩ (.string s) = w6 at *
        clear g4 c4 d0 lx b0
        obtain ⟨-, d0, d1, d2, d3, d4, d5, d6, -⟩ := D2.out.box
        obtain ⟨-, e0, e1, e2, e3, e4, e5, e6, -⟩ := D2.out.res
        have g0 := D2.out.res.fz 0 (by decide)
        have g1 := D2.out.res.fz 1 (by decide)
        have g2 := D2.out.res.fz 2 (by decide)
        have g3 := D2.out.res.fz 3 (by decide)
        have g4 := D2.out.res.fz 4 (by decide)
        have g5 := D2.out.res.fz 5 (by decide)
        have g6 := D2.out.res.fz 6 (by decide)
        obtain ⟨Zx, Zs, Zg, Zo⟩ := D2.out.done
        have z0 := Zx.c0
        have z1 := Zx.c1
        have z2 := Zx.c2
        have z3 := Zx.c3
        have z4 := Zx.c4
        have z5 := Zx.c5
        have z6 := Zx.c6
        have GI := Lib.hid (D7.its GM.out Zo D2.out.hb hBV hxs)
        have ZS := Lib.hid Zs
        have ZG := Lib.hid Zg
        clear Zx Zo Zs Zg
        go_wp2
        refine bodyPost_ret (v := .agg #[.int .i64 d, .string f1, .string f2, .int .i64 0, .string s, .int .i64 0, .slice (some x) m q]) (by simp [results, Tryz.results56, go_sem, z0, z1, z2, z3, z4, z5, z6, e0, e1, e2, e3, e4, e5, e6]) rfl (by unfold PrDrawn; exact ⟨⟨d, f1, f2, 0, s, 0, l⟩, x, m, q, A, N, C, k6, rfl, GI.out, hm5, ⟨⟨by show -1000 ≤ (d : Int); omega, by show (d : Int) ≤ 1000; omega⟩, by show f1.size ≤ 61; omega, by show f2.size ≤ 61; omega, ⟨by show -1000 ≤ (0 : Int); omega, by show (0 : Int) ≤ 1000; omega⟩, by show s.size ≤ 61; omega, ⟨by show -1000 ≤ (0 : Int); omega, by show (0 : Int) ≤ 1000; omega⟩, by show l.length ≤ 60; omega, HD5.out⟩, by omega, ZS.out, ZG.out⟩)
    · have hd3 : ¬ (d = 0) := by omega
      have hd4 : (d == 0) = false := by rw [beq_eq_false_iff_ne]; exact hd3
      go_upto_region 8 with fail
      clear d0 lx
      obtain ⟨-, d0, d1, d2, d3, d4, d5, d6, -⟩ := DD.out.box
      obtain ⟨-, e0, e1, e2, e3, e4, e5, e6, -⟩ := DD.out.res
      have g0 := DD.out.res.fz 0 (by decide)
      have g1 := DD.out.res.fz 1 (by decide)
      have g2 := DD.out.res.fz 2 (by decide)
      have g3 := DD.out.res.fz 3 (by decide)
      have g4 := DD.out.res.fz 4 (by decide)
      have g5 := DD.out.res.fz 5 (by decide)
      have g6 := DD.out.res.fz 6 (by decide)
      obtain ⟨Zx, Zs, Zg, Zo⟩ := DD.out.done
      have z0 := Zx.c0
      have z1 := Zx.c1
      have z2 := Zx.c2
      have z3 := Zx.c3
      have z4 := Zx.c4
      have z5 := Zx.c5
      have z6 := Zx.c6
      have GI := Lib.hid (D7.its GM.out Zo DD.out.hb hBV hxs)
      have ZS := Lib.hid Zs
      have ZG := Lib.hid Zg
      clear Zx Zo Zs Zg
      go_wp2
      refine bodyPost_ret (v := .agg #[.int .i64 d, .string f1, .string f2, .int .i64 0, .string ⟨#[]⟩, .int .i64 0, .slice (some x) m q]) (by simp [results, Tryz.results56, go_sem, z0, z1, z2, z3, z4, z5, z6, e0, e1, e2, e3, e4, e5, e6]) rfl (by unfold PrDrawn; exact ⟨⟨d, f1, f2, 0, ⟨#[]⟩, 0, l⟩, x, m, q, A, N, C, k5, rfl, GI.out, hm5, ⟨⟨by show -1000 ≤ (d : Int); omega, by show (d : Int) ≤ 1000; omega⟩, by show f1.size ≤ 61; omega, by show f2.size ≤ 61; omega, ⟨by show -1000 ≤ (0 : Int); omega, by show (0 : Int) ≤ 1000; omega⟩, by show (0 : Nat) ≤ 61; omega, ⟨by show -1000 ≤ (0 : Int); omega, by show (0 : Int) ≤ 1000; omega⟩, by show l.length ≤ 60; omega, HD5.out⟩, by omega, ZS.out, ZG.out⟩)
end Go.Proofs.YtcaknhoaoodbfaaGreatDoor
