/- spec.l7Shape, spec.MoreFault. -/
import Derived.Test.YtcaknhoaoodbfaaGreatDoorGP7
import Derived.Test.YtcaknhoaoodbfaaGreatDoorGP9
import Derived.IntWalk
namespace Go.Proofs.YtcaknhoaoodbfaaGreatDoor
open Go.ChangeShapes Go.WideShapes Go.ChangeAt Go.RowKit
set_option linter.unusedVariables false
theorem moreStand_first (l : List It) : moreStand l 0 = headB true (l.getD 0 dIt).depth (l.getD 0 dIt).name.toList.isEmpty (csOf (l.getD 0 dIt)) := by simp [moreStand]
theorem moreStand_later {l : List It} {k : Nat} (h : k ≠ 0) : moreStand l k = (headB false (l.getD k dIt).depth (l.getD k dIt).name.toList.isEmpty (csOf (l.getD k dIt)) && stepB (l.getD k dIt).depth (l.getD (k - 1) dIt).depth (l.getD k dIt).name.toList.isEmpty (l.getD (k - 1) dIt).name.toList.isEmpty) := by
  unfold moreStand
  rw [decide_eq_false h]
  simp
set_option maxRecDepth 100000 in
set_option maxHeartbeats 6400000 in
theorem specMoreShape_any (a : Option Addr) (n c : Nat) (l : List It) (w : World) (h20 : n ≤ 20) (hd : ∀ i, i < n → 0 ≤ (l.getD i dIt).depth ∧ (l.getD i dIt).depth ≤ 6) (h : ItsAt w a n c l) :
    Calls Tryz.prog 78 #[.slice a n c] w fun e w' => e = .returned (.bool (moreStands l)) ∧ ∃ n, w' = w.drewN n := by
  have HD := Lib.hid hd
  have hlen := h.len
  have HNO : Hid (∀ i, i < n → moreStand l i = false → moreStands l = false) := Lib.hid fun i hi e => moreStands_no (by omega) e
  have HYES : Hid ((∀ i, i < n → moreStand l i = true) → moreStands l = true) := Lib.hid fun g => moreStands_yes fun i hi => g i (by omega)
  have HROW := Lib.hid h.row
  clear h hd hlen
  generalize moreStands l = st at HNO HYES
  go_enter Tryz.func78, Tryz.ntmps78
  go_wp2
  go_loopw [8] (fun i wr => ∃ k : Nat, k ≤ n ∧ i = .int .i64 k ∧ (∀ j, j < k → moreStand l j = true) ∧ ∃ nd, wr = w.drewN nd) (fun i _ => n - (intOf i).toNat)
  case atStart => exact ⟨0, Nat.zero_le _, rfl, fun j hj => by omega, 0, rfl⟩
  case round =>
    obtain ⟨k, hk, rfl, hz, hw⟩ := hrel
    have HW := Lib.hid hw
    have HZ := Lib.hid hz
    clear hz hw
    by_cases hlt : k < n
    · obtain ⟨b, o, rfl, h4⟩ := HROW.out.resolve_left (by omega)
      have hbw : Below w.heap.size w wr := by obtain ⟨nd, rfl⟩ := HW.out; exact below_drewN (Below.refl _ _) nd
      have hi := (h4 k hlt).below hbw
      have d0 := hi.c0
      have d2 := hi.c2
      have d3 := hi.c3
      have HN2 : Hid (moreStand l k = false → st = false) := Lib.hid (HNO.out k hlt)
      have HY3 : Hid (moreStand l k = true → ∀ j, j < k + 1 → moreStand l j = true) := Lib.hid fun e j h2 => by
        rcases Nat.lt_or_ge j k with h | h
        · exact HZ.out j h
        · obtain rfl : j = k := by omega
          exact e
      have q8 : (k : Int) < (n : Int) := by omega
      by_cases hk0 : k = 0
      · have e0 : moreStand l k = headB true (l.getD k dIt).depth (l.getD k dIt).name.toList.isEmpty (csOf (l.getD k dIt)) := by subst hk0; exact moreStand_first l
        rw [e0] at HN2 HY3
        clear hi h4 e0 hbw
        subst hk0
        simp only [Nat.zero_mul, Nat.add_zero] at d0 d2 d3
        rw [show ((0 : Nat) : Int) = 0 from rfl] at q8 ⊢
        generalize l.getD 0 dIt = x at d0 d2 d3 HN2 HY3
        obtain ⟨xd, xt, xs, xn, xa⟩ := x
        unfold csOf at HN2 HY3
        dsimp only at d0 d2 d3 HN2 HY3
        obtain ⟨xe, hxe⟩ : ∃ xe, xn.toList.isEmpty = xe := ⟨_, rfl⟩
        obtain ⟨cs, hcs⟩ : ∃ cs, (xs.toList == csL) = cs := ⟨_, rfl⟩
        rw [hxe, hcs] at HN2 HY3
        unfold csL at hcs
        have hcs2 : (xs.toList = [106, 97, 98, 98, 101, 114, 58, 99, 108, 105, 101, 110, 116]) ↔ cs = true := by rw [← hcs, beq_iff_eq]
        cases hh : headB true xd xe cs
        · have HF := Lib.hid (HN2.out hh)
          rcases head_no hh with ⟨g0, rfl⟩ | ⟨g0, rfl, rfl⟩ | ⟨g0, _⟩
          all_goals
            clear HN2 HY3 hh
            go_wp2
            go_ret
            exact ⟨ret_bool HF.out.symm, drew_more HW.out 0⟩
        · have HF := Lib.hid (HY3.out hh)
          rcases head_yes hh with ⟨g0, rfl, rfl⟩ | ⟨g0, g1⟩
          · clear HN2 HY3 hh
            go_wp2
            go_roundw
            case rel => exact ⟨1, by omega, by go_num, HF.out, drew_more HW.out 0⟩
            case measure => simp [intOf]; omega
          · cases g1
      · have qz : ((k : Int) == 0) = false := by rw [beq_eq_false_iff_ne]; omega
        have hj := (h4 (k - 1) (by omega)).below hbw
        have e0 := hj.c0
        have e3 := hj.c3
        have hdx := HD.out k hlt
        have hdp := HD.out (k - 1) (by omega)
        have q5 : (0 : Int) ≤ (k : Int) - 1 := by omega
        have q6 : (1 : Int) ≤ (k : Int) := by omega
        have q7 : (k : Int) - 1 < (n : Int) := by omega
        rw [moreStand_later hk0] at HN2 HY3
        clear hi hj h4 hbw
        generalize l.getD k dIt = x at d0 d2 d3 hdx HN2 HY3
        generalize l.getD (k - 1) dIt = p at e0 e3 hdp HN2 HY3
        obtain ⟨xd, xt, xs, xn, xa⟩ := x
        obtain ⟨pd, pt, ps, pn, pa⟩ := p
        unfold csOf at HN2 HY3
        dsimp only at d0 d2 d3 e0 e3 hdx hdp HN2 HY3
        have hw1 : IntKind.i64.wrap (pd + 1) = pd + 1 := IntWalk.i64_in _ (by omega)
        have hw2 : wrap64 (pd + 1) = pd + 1 := IntWalk.wrap64_in _ (by omega)
        obtain ⟨xe, hxe⟩ : ∃ xe, xn.toList.isEmpty = xe := ⟨_, rfl⟩
        obtain ⟨pe, hpe⟩ : ∃ pe, pn.toList.isEmpty = pe := ⟨_, rfl⟩
        obtain ⟨cs, hcs⟩ : ∃ cs, (xs.toList == csL) = cs := ⟨_, rfl⟩
        rw [hxe, hpe, hcs] at HN2 HY3
        unfold csL at hcs
        have hcs2 : (xs.toList = [106, 97, 98, 98, 101, 114, 58, 99, 108, 105, 101, 110, 116]) ↔ cs = true := by rw [← hcs, beq_iff_eq]
        cases hh : headB false xd xe cs
        · have HF := Lib.hid (HN2.out (by rw [hh]; rfl))
          rcases head_no hh with ⟨g0, rfl⟩ | ⟨g0, rfl, rfl⟩ | ⟨_, g1⟩
          · clear HN2 HY3 hh
            go_wp2
            go_ret
            exact ⟨ret_bool HF.out.symm, drew_more HW.out 0⟩
          · clear HN2 HY3 hh
            go_wp2
            go_ret
            exact ⟨ret_bool HF.out.symm, drew_more HW.out 0⟩
          · cases g1
        · cases hst : stepB xd pd xe pe
          · have HF := Lib.hid (HN2.out (by rw [hh, hst]; rfl))
            rcases head_yes hh with ⟨g0, rfl, rfl⟩ | ⟨g0, _⟩
            · rcases step_no hst with g3 | ⟨g3, g4, rfl⟩ | ⟨g3, g4, g5, rfl, g6⟩
              · clear HN2 HY3 hst hh
                go_wp2_with fail
                go_quiet (fail)
                go_wp2
                go_ret
                exact ⟨ret_bool HF.out.symm, drew_more HW.out _⟩
              · clear HN2 HY3 hst hh
                go_wp2_with fail
                go_quiet (fail)
                go_wp2
                go_ret
                exact ⟨ret_bool HF.out.symm, drew_more HW.out _⟩
              · cases g5
            · rcases step_no hst with g3 | ⟨g3, g4, rfl⟩ | ⟨g3, g4, rfl, rfl, g6⟩
              all_goals
                clear HN2 HY3 hst hh
                go_wp2_with fail
                go_quiet (fail)
                go_wp2
                go_ret
                exact ⟨ret_bool HF.out.symm, drew_more HW.out _⟩
          · have HF := Lib.hid (HY3.out (by rw [hh, hst]; rfl))
            rcases head_yes hh with ⟨g0, ge, rfl⟩ | ⟨g0, _⟩
            all_goals
              rcases step_yes hst with ⟨g3, g4, rfl, rfl⟩ | ⟨g3, g4, rfl, rfl⟩ | ⟨g3, g4, rfl⟩ | ⟨g3, g4, rfl, rfl⟩ | ⟨g3, g4, rfl, rfl, g6⟩
              all_goals
                first
                  | (exfalso; exact absurd ge (by decide))
                  | (clear HN2 HY3 hst hh
                     go_wp2_with fail
                     go_quiet (fail)
                     go_wp2
                     go_roundw
                     case rel => exact ⟨k + 1, by omega, by go_num, HF.out, drew_more HW.out _⟩
                     case measure => simp [intOf]; omega)
                  | fail
    · have HF : st = true := HYES.out fun i h1 => HZ.out i (by omega)
      obtain rfl : k = n := by omega
      go_wp2
      go_ret
      exact ⟨ret_bool HF.symm, HW.out⟩
set_option maxRecDepth 100000 in
set_option maxHeartbeats 3200000 in
theorem specMoreFault_any (a : Option Addr) (n c : Nat) (l : List It) (w : World) (hs : SmallIts l) (h : ItsAt w a n c l) :
    Calls Tryz.prog 26 #[.slice a n c] w fun e w' => e = .returned (.int .i64 (moreCode l)) ∧ Below w.heap.size w w' := by
  have hm := h.max
  have HL := Lib.hid h.len
  have H := Lib.hid h
  have HS := Lib.hid hs.2
  clear hs
  by_cases hn : 20 < n
  · have HC := Lib.hid (moreCode_many (l := l) (by have := h.len; omega))
    clear h
    generalize moreCode l = cd at HC
    go_enter Tryz.func26, Tryz.ntmps26
    go_wp2
    go_ret
    exact ⟨ret_i HC.out.symm, Below.refl _ _⟩
  · have h20 : n ≤ 20 := by omega
    have HC1 : Hid (∀ k, k < n → (∀ j, j < k → moreAt (l.getD j dIt) = 0) → moreAt (l.getD k dIt) ≠ 0 → moreCode l = moreAt (l.getD k dIt)) := Lib.hid fun k hk h0 h1 => moreCode_at (by have := h.len; omega) (by have := h.len; omega) h0 h1
    have HC2 : Hid ((∀ j, j < n → moreAt (l.getD j dIt) = 0) → moreCode l = if moreStands l = true then 0 else 1) := Lib.hid fun h0 => moreCode_end (by have := h.len; omega) (fun j hj => h0 j (by have := h.len; omega))
    clear h hn
    generalize moreCode l = cd at HC1 HC2
    go_enter Tryz.func26, Tryz.ntmps26
    go_wp2
    go_loopw [10] (fun i wr => ∃ k : Nat, k ≤ n ∧ i = .int .i64 k ∧ (∀ j, j < k → moreAt (l.getD j dIt) = 0) ∧ Below w.heap.size w wr) (fun i _ => n - (intOf i).toNat)
    case atStart => exact ⟨0, Nat.zero_le _, rfl, fun j hj => by omega, Below.refl _ _⟩
    case round =>
      obtain ⟨k, hk, rfl, hz, hb⟩ := hrel
      have HK := Lib.hid hz
      clear hz
      by_cases hlt : k < n
      · obtain ⟨b, o, rfl, h4⟩ := H.out.row.resolve_left (by omega)
        have hi := (h4 k hlt).below hb
        have hlt4 := hi.lt
        have d0 := hi.c0
        have d1 := hi.c1
        have d2 := hi.c2
        have d3 := hi.c3
        obtain ⟨a4, n4, c4, d4, hat⟩ := hi.c4
        have k1 : (k : Int) < (n : Int) := by omega
        have K := Lib.hid (fun W (hb' : Below wr.heap.size wr W) => specItemFault_any (l.getD k dIt) a4 n4 c4 W (HS.out k (by have := HL.out; omega)) (hat.below hb'))
        have HY : Hid (moreAt (l.getD k dIt) ≠ 0 → cd = moreAt (l.getD k dIt)) := Lib.hid (HC1.out k hlt HK.out)
        have HK2 : Hid (moreAt (l.getD k dIt) = 0 → ∀ j, j < k + 1 → moreAt (l.getD j dIt) = 0) := Lib.hid fun hx j hj => by
          rcases Nat.lt_or_ge j k with h | h
          · exact HK.out j h
          · obtain rfl : j = k := by omega
            exact hx
        have HB := Lib.hid hb
        clear hi hat hb h4
        unfold moreAt at HY HK2
        generalize itemCode (l.getD k dIt) = ic at K HY HK2
        generalize l.getD k dIt = x at d0 d1 d2 d3 K HY HK2
        obtain ⟨xd, xt, xs, xn, xa⟩ := x
        dsimp only at d0 d1 d2 d3 K HY HK2
        by_cases h0 : ic = 0
        · subst h0
          simp only [ne_eq, not_true_eq_false, if_false] at HY HK2
          by_cases h6 : xd = 6
          · have HY2 := Lib.hid (HY.out (by rw [if_pos h6]; decide))
            rw [if_pos h6] at HY2
            subst h6
            clear HK2 HY
            go_wp2_with fail
            refine (K.out _ (Below.refl _ _)).mono ?_
            rintro e w2 ⟨rfl, hb2⟩
            have e0 := (hb2.cell (p := ⟨b, o + k * 5, none⟩) hlt4).trans d0
            have HB2 := Lib.hid hb2
            clear d0 d1 d2 d3 d4 hb2
            go_wp2
            go_ret
            exact ⟨ret_i HY2.out.symm, below_then HB.out HB2.out⟩
          · have HK3 := Lib.hid (HK2.out (by rw [if_neg h6]))
            have q6 : (xd == 6) = false := by rw [beq_eq_false_iff_ne]; exact h6
            clear HK2 HY
            go_wp2_with fail
            refine (K.out _ (Below.refl _ _)).mono ?_
            rintro e w2 ⟨rfl, hb2⟩
            have e0 := (hb2.cell (p := ⟨b, o + k * 5, none⟩) hlt4).trans d0
            have HB2 := Lib.hid hb2
            clear d0 d1 d2 d3 d4 hb2
            go_wp2
            go_roundw
            case rel => exact ⟨k + 1, by omega, by go_num, HK3.out, below_then HB.out HB2.out⟩
            case measure => simp [intOf]; omega
        · have HY2 := Lib.hid (HY.out (by rw [if_pos h0]; exact h0))
          rw [if_pos h0] at HY2
          have q1 : (ic != 0) = true := by simpa using h0
          have q2 : (ic == 0) = false := by simpa using h0
          clear HK2 HY h0
          go_wp2_with fail
          refine (K.out _ (Below.refl _ _)).mono ?_
          rintro e w2 ⟨rfl, hb2⟩
          go_wp2
          go_ret
          exact ⟨ret_i HY2.out.symm, below_then HB.out hb2⟩
      · obtain rfl : k = n := by omega
        have hdp : ∀ i, i < k → 0 ≤ (l.getD i dIt).depth ∧ (l.getD i dIt).depth ≤ 6 := fun i hi => item_depth (by
          have h1 := HK.out i hi
          unfold moreAt at h1
          by_cases h2 : itemCode (l.getD i dIt) = 0
          · exact h2
          · rw [if_pos h2] at h1; exact h1)
        have K := Lib.hid (specMoreShape_any a k c l wr h20 hdp (H.out.below hb))
        have HC3 := Lib.hid (HC2.out HK.out)
        clear hdp
        generalize moreStands l = st at K HC3
        clear HC1 HC2
        cases st
        all_goals
          go_wp2_with fail
          refine K.out.mono ?_
          rintro e w2 ⟨rfl, nd, rfl⟩
          go_wp2
          go_ret
          exact ⟨ret_i HC3.out.symm, below_drewN hb nd⟩
end Go.Proofs.YtcaknhoaoodbfaaGreatDoor
