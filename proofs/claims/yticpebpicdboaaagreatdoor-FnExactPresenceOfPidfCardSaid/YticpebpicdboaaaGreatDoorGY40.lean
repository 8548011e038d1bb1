/- impl.areTrees, impl.isDeepest, impl.MoreFault. -/
import Derived.Test.YticpebpicdboaaaGreatDoorGY7
import Derived.Test.YticpebpicdboaaaGreatDoorGY24
namespace Go.Proofs.YticpebpicdboaaaGreatDoor
open Go.ChangeShapes Go.WideShapes Go.ChangeAt Go.RowKit
set_option linter.unusedVariables false

theorem follow_step (d pd : Int) (xe pe : Bool) : followB d pd xe pe = stepB d pd xe pe := by
  unfold followB stepB
  rw [Bool.eq_iff_iff]
  cases pe <;> cases xe <;> simp <;> omega

set_option maxRecDepth 100000 in
set_option maxHeartbeats 6400000 in
theorem implAreTrees_any (a : Option Addr) (n c : Nat) (l : List It) (w : World) (h20 : n ≤ 20) (hd : ∀ i, i < n → 0 ≤ (l.getD i dIt).depth ∧ (l.getD i dIt).depth ≤ 6) (h : ItsAt w a n c l) :
    Calls Tryz.prog 91 #[.slice a n c] w fun e w' => e = .returned (.bool (moreStands l)) ∧ ∃ n, w' = w.drewN n := by
  have HD := Lib.hid hd
  have hlen := h.len
  have HNO : Hid (∀ i, i < n → moreStand l i = false → moreStands l = false) := Lib.hid fun i hi e => moreStands_no (by omega) e
  have HYES : Hid ((∀ i, i < n → moreStand l i = true) → moreStands l = true) := Lib.hid fun g => moreStands_yes fun i hi => g i (by omega)
  have HROW := Lib.hid h.row
  clear h hd hlen
  generalize moreStands l = st at HNO HYES
  go_enter Tryz.func91, Tryz.ntmps91
  go_wp2
  go_loopw [7] (fun i wr => ∃ k : Nat, k ≤ n ∧ i = .int .i64 k ∧ (∀ j, j < k → moreStand l j = true) ∧ ∃ nd, wr = w.drewN nd) (fun i _ => n - (intOf i).toNat)
  case atStart => exact ⟨0, Nat.zero_le _, rfl, fun j hj => by omega, 0, rfl⟩
  case round =>
    obtain ⟨k, hk, rfl, hz, hw⟩ := hrel
    have HW := Lib.hid hw
    have HZ := Lib.hid hz
    clear hz hw
    by_cases hlt : k < n
    · obtain ⟨b, o, rfl, h4⟩ := HROW.out.resolve_left (by omega)
      have hbw : Below w.heap.size w wr := by obtain ⟨nd, rfl⟩ := HW.out; exact below_drewN (Below.refl _ _) nd
      have hi := (h4 k hlt).below hbw
      have d0 := hi.c0
      have d2 := hi.c2
      have d3 := hi.c3
      have HN2 : Hid (moreStand l k = false → st = false) := Lib.hid (HNO.out k hlt)
      have HY3 : Hid (moreStand l k = true → ∀ j, j < k + 1 → moreStand l j = true) := Lib.hid fun e j h2 => by
        rcases Nat.lt_or_ge j k with h | h
        · exact HZ.out j h
        · obtain rfl : j = k := by omega
          exact e
      have q8 : (k : Int) < (n : Int) := by omega
      by_cases hk0 : k = 0
      · have e0 : moreStand l k = headB true (l.getD k dIt).depth (l.getD k dIt).name.toList.isEmpty (csOf (l.getD k dIt)) := by subst hk0; exact moreStand_first l
        rw [e0] at HN2 HY3
        clear hi h4 e0 hbw
        subst hk0
        simp only [Nat.zero_mul, Nat.add_zero] at d0 d2 d3
        rw [show ((0 : Nat) : Int) = 0 from rfl] at q8 ⊢
        generalize l.getD 0 dIt = x at d0 d2 d3 HN2 HY3
        obtain ⟨xd, xt, xs, xn, xa⟩ := x
        unfold csOf at HN2 HY3
        dsimp only at d0 d2 d3 HN2 HY3
        obtain ⟨xe, hxe⟩ : ∃ xe, xn.toList.isEmpty = xe := ⟨_, rfl⟩
        obtain ⟨cs, hcs⟩ : ∃ cs, (xs.toList == csL) = cs := ⟨_, rfl⟩
        rw [hxe, hcs] at HN2 HY3
        unfold csL at hcs
        have hcs2 : (xs.toList = [106, 97, 98, 98, 101, 114, 58, 99, 108, 105, 101, 110, 116]) ↔ cs = true := by rw [← hcs, beq_iff_eq]
        cases hh : headB true xd xe cs
        · have HF := Lib.hid (HN2.out hh)
          rcases head_no hh with ⟨g0, rfl⟩ | ⟨g0, rfl, rfl⟩ | ⟨g0, _⟩
          all_goals
            have g1 : (xd != 0) = !(xd == 0) := rfl
            rw [g0] at g1
            clear HN2 HY3 hh
            go_wp2
            go_ret
            exact ⟨ret_bool HF.out.symm, drew_more HW.out 0⟩
        · have HF := Lib.hid (HY3.out hh)
          rcases head_yes hh with ⟨g0, rfl, rfl⟩ | ⟨g0, g1⟩
          · have g1 : (xd != 0) = !(xd == 0) := rfl
            rw [g0] at g1
            clear HN2 HY3 hh
            go_wp2
            go_roundw
            case rel => exact ⟨1, by omega, by go_num, HF.out, drew_more HW.out 0⟩
            case measure => simp [intOf]; omega
          · cases g1
      · have qz : ((k : Int) == 0) = false := by rw [beq_eq_false_iff_ne]; omega
        have hj := (h4 (k - 1) (by omega)).below hbw
        have hdx := HD.out k hlt
        have hdp := HD.out (k - 1) (by omega)
        have KF := Lib.hid (fun (m : Nat) => mayFollow_any b (o + (k - 1) * 5) b (o + k * 5) (l.getD (k - 1) dIt) (l.getD k dIt) (wr.drewN m) (hj.below (below_drewN (Below.refl _ _) m)) (hi.below (below_drewN (Below.refl _ _) m)) hdp)
        have q5 : (0 : Int) ≤ (k : Int) - 1 := by omega
        have q6 : (1 : Int) ≤ (k : Int) := by omega
        have q7 : (k : Int) - 1 < (n : Int) := by omega
        have q9 : (0 : Int) < (k : Int) := by omega
        rw [moreStand_later hk0] at HN2 HY3
        clear hi hj h4 hbw
        generalize l.getD k dIt = x at d0 d2 d3 hdx HN2 HY3 KF
        generalize l.getD (k - 1) dIt = p at hdp HN2 HY3 KF
        obtain ⟨xd, xt, xs, xn, xa⟩ := x
        obtain ⟨pd, pt, ps, pn, pa⟩ := p
        unfold csOf at HN2 HY3
        dsimp only at d0 d2 d3 hdx hdp HN2 HY3 KF
        obtain ⟨xe, hxe⟩ : ∃ xe, xn.toList.isEmpty = xe := ⟨_, rfl⟩
        obtain ⟨pe, hpe⟩ : ∃ pe, pn.toList.isEmpty = pe := ⟨_, rfl⟩
        obtain ⟨cs, hcs⟩ : ∃ cs, (xs.toList == csL) = cs := ⟨_, rfl⟩
        rw [hxe, hpe, hcs] at HN2 HY3
        have K := Lib.hid (KF.out 0)
        rw [hxe, hpe, World.drewN_zero] at K
        simp only [follow_step] at K
        clear KF
        unfold csL at hcs
        have hcs2 : (xs.toList = [106, 97, 98, 98, 101, 114, 58, 99, 108, 105, 101, 110, 116]) ↔ cs = true := by rw [← hcs, beq_iff_eq]
        generalize stepB xd pd xe pe = fb at K HN2 HY3
        cases hh : headB false xd xe cs
        · have HF := Lib.hid (HN2.out (by rw [hh]; rfl))
          rcases head_no hh with ⟨g0, rfl⟩ | ⟨g0, rfl, rfl⟩ | ⟨_, g1⟩
          · clear HN2 HY3 hh K
            go_wp2
            go_ret
            exact ⟨ret_bool HF.out.symm, drew_more HW.out 0⟩
          · clear HN2 HY3 hh K
            go_wp2
            go_ret
            exact ⟨ret_bool HF.out.symm, drew_more HW.out 0⟩
          · cases g1
        · cases fb
          · have HF := Lib.hid (HN2.out (by rw [hh]; rfl))
            rcases head_yes hh with ⟨g0, rfl, rfl⟩ | ⟨g0, _⟩
            all_goals
              clear HN2 HY3 hh
              go_wp2_with fail
              refine K.out.mono ?_
              rintro e w2 ⟨rfl, nd, rfl⟩
              go_wp2
              go_ret
              exact ⟨ret_bool HF.out.symm, drew_more HW.out _⟩
          · have HF := Lib.hid (HY3.out (by rw [hh]; rfl))
            rcases head_yes hh with ⟨g0, rfl, rfl⟩ | ⟨g0, _⟩
            all_goals
              clear HN2 HY3 hh
              go_wp2_with fail
              refine K.out.mono ?_
              rintro e w2 ⟨rfl, nd, rfl⟩
              go_wp2
              go_roundw
              case rel => exact ⟨k + 1, by omega, by go_num, HF.out, drew_more HW.out _⟩
              case measure => simp [intOf]; omega
    · have HF : st = true := HYES.out fun i h1 => HZ.out i (by omega)
      obtain rfl : k = n := by omega
      go_wp2
      go_ret
      exact ⟨ret_bool HF.symm, HW.out⟩

theorem isDeepest_any (x : It) (a : Option Addr) (n c : Nat) (w : World) :
    Calls Tryz.prog 90 #[.agg #[.int .i64 x.depth, .string x.text, .string x.space, .string x.name, .slice a n c]] w fun e w' => e = .returned (.bool (x.depth == 6)) ∧ Below w.heap.size w w' := by
  obtain ⟨xd, xt, xs, xn, xa⟩ := x
  dsimp only
  go_enter Tryz.func90, Tryz.ntmps90
  go_wp2
  go_ret
  exact ⟨rfl, below1 _ _⟩

set_option maxRecDepth 100000 in
set_option maxHeartbeats 3200000 in
theorem implMoreFault_any (a : Option Addr) (n c : Nat) (l : List It) (w : World) (hT : Tabs w) (h : ItsAt w a n c l) :
    Calls Tryz.prog 28 #[.slice a n c] w fun e w' => e = .returned (.int .i64 (moreCode l)) ∧ Below w.heap.size w w' := by
  have hm := h.max
  have HL := Lib.hid h.len
  have H := Lib.hid h
  have HT := Lib.hid hT
  clear hT
  by_cases hn : 20 < n
  · have HC := Lib.hid (moreCode_many (l := l) (by have := h.len; omega))
    clear h
    generalize moreCode l = cd at HC
    go_enter Tryz.func28, Tryz.ntmps28
    go_wp2
    go_ret
    exact ⟨ret_i HC.out.symm, Below.refl _ _⟩
  · have h20 : n ≤ 20 := by omega
    have HC1 : Hid (∀ k, k < n → (∀ j, j < k → moreAt (l.getD j dIt) = 0) → moreAt (l.getD k dIt) ≠ 0 → moreCode l = moreAt (l.getD k dIt)) := Lib.hid fun k hk h0 h1 => moreCode_at (by have := h.len; omega) (by have := h.len; omega) h0 h1
    have HC2 : Hid ((∀ j, j < n → moreAt (l.getD j dIt) = 0) → moreCode l = if moreStands l = true then 0 else 1) := Lib.hid fun h0 => moreCode_end (by have := h.len; omega) (fun j hj => h0 j (by have := h.len; omega))
    clear h hn
    generalize moreCode l = cd at HC1 HC2
    go_enter Tryz.func28, Tryz.ntmps28
    go_wp2
    go_loopw [11] (fun i wr => ∃ k : Nat, k ≤ n ∧ i = .int .i64 k ∧ (∀ j, j < k → moreAt (l.getD j dIt) = 0) ∧ Below w.heap.size w wr) (fun i _ => n - (intOf i).toNat)
    case atStart => exact ⟨0, Nat.zero_le _, rfl, fun j hj => by omega, Below.refl _ _⟩
    case round =>
      obtain ⟨k, hk, rfl, hz, hb⟩ := hrel
      have HK := Lib.hid hz
      clear hz
      by_cases hlt : k < n
      · obtain ⟨b, o, rfl, h4⟩ := H.out.row.resolve_left (by omega)
        have hi := (h4 k hlt).below hb
        have hlt4 := hi.lt
        have d0 := hi.c0
        have d1 := hi.c1
        have d2 := hi.c2
        have d3 := hi.c3
        obtain ⟨a4, n4, c4, d4, hat⟩ := hi.c4
        have k1 : (k : Int) < (n : Int) := by omega
        have K := Lib.hid (fun W (hb' : Below wr.heap.size wr W) => implItemFault_any (l.getD k dIt) a4 n4 c4 W (tabs_kept HT.out (below_then hb hb')) hi.wf hi.size (hat.below hb'))
        have KD := Lib.hid (fun W => isDeepest_any (l.getD k dIt) a4 n4 c4 W)
        have HY : Hid (moreAt (l.getD k dIt) ≠ 0 → cd = moreAt (l.getD k dIt)) := Lib.hid (HC1.out k hlt HK.out)
        have HK2 : Hid (moreAt (l.getD k dIt) = 0 → ∀ j, j < k + 1 → moreAt (l.getD j dIt) = 0) := Lib.hid fun hx j hj => by
          rcases Nat.lt_or_ge j k with h | h
          · exact HK.out j h
          · obtain rfl : j = k := by omega
            exact hx
        have HB := Lib.hid hb
        clear hi hat hb h4
        unfold moreAt at HY HK2
        generalize itemCode (l.getD k dIt) = ic at K HY HK2
        generalize l.getD k dIt = x at d0 d1 d2 d3 K KD HY HK2
        obtain ⟨xd, xt, xs, xn, xa⟩ := x
        dsimp only at d0 d1 d2 d3 K KD HY HK2
        by_cases h0 : ic = 0
        · subst h0
          simp only [ne_eq, not_true_eq_false, if_false] at HY HK2
          have HY2 : Hid ((xd == 6) = true → cd = 3) := Lib.hid fun h6 => HY.out (by rw [if_pos (beq_iff_eq.1 h6)]; decide) |>.trans (by rw [if_pos (beq_iff_eq.1 h6)])
          have HK3 : Hid ((xd == 6) = false → ∀ j, j < k + 1 → moreAt (l.getD j dIt) = 0) := Lib.hid fun h6 => HK2.out (by rw [if_neg (by intro e; rw [e] at h6; simp at h6)])
          generalize (xd == 6) = b6 at KD HY2 HK3
          clear HK2 HY
          go_wp2_with fail
          refine (K.out _ (below1 _ _)).mono ?_
          rintro e w2 ⟨rfl, hb2⟩
          obtain ⟨hc, hf⟩ := bcell hb2
          have e0 : w2.cell? ⟨wr.heap.size, 0, none⟩ = some (.int .i64 xd) := by rw [hc _ _ (by simp)]; simp
          have e1 : w2.cell? ⟨wr.heap.size, 1, none⟩ = some (.string xt) := by rw [hc _ _ (by simp)]; simp
          have e2 : w2.cell? ⟨wr.heap.size, 2, none⟩ = some (.string xs) := by rw [hc _ _ (by simp)]; simp
          have e3 : w2.cell? ⟨wr.heap.size, 3, none⟩ = some (.string xn) := by rw [hc _ _ (by simp)]; simp
          have e4 : w2.cell? ⟨wr.heap.size, 4, none⟩ = some (.slice a4 n4 c4) := by rw [hc _ _ (by simp)]; simp
          have HB2 := Lib.hid (below_then HB.out (below_then (below1 _ _) hb2))
          clear d0 d1 d2 d3 d4 hb2 hc hf
          go_wp2_with fail
          refine (KD.out _).mono ?_
          rintro e w3 ⟨rfl, hb3⟩
          have HB3 := Lib.hid (below_then HB2.out hb3)
          clear hb3
          cases b6
          · have HK4 := Lib.hid (HK3.out rfl)
            clear HK3 HY2
            go_wp2
            go_roundw
            case rel => exact ⟨k + 1, by omega, by go_num, HK4.out, HB3.out⟩
            case measure => simp [intOf]; omega
          · have HY3 := Lib.hid (HY2.out rfl)
            clear HK3 HY2
            go_wp2
            go_ret
            exact ⟨ret_i HY3.out.symm, HB3.out⟩
        · have HY2 := Lib.hid (HY.out (by rw [if_pos h0]; exact h0))
          rw [if_pos h0] at HY2
          have q1 : (ic != 0) = true := by simpa using h0
          have q2 : (ic == 0) = false := by simpa using h0
          clear HK2 HY h0
          go_wp2_with fail
          refine (K.out _ (below1 _ _)).mono ?_
          rintro e w2 ⟨rfl, hb2⟩
          go_wp2
          go_ret
          exact ⟨ret_i HY2.out.symm, below_then HB.out (below_then (below1 _ _) hb2)⟩
      · obtain rfl : k = n := by omega
        have hdp : ∀ i, i < k → 0 ≤ (l.getD i dIt).depth ∧ (l.getD i dIt).depth ≤ 6 := fun i hi => item_depth (by
          have h1 := HK.out i hi
          unfold moreAt at h1
          by_cases h2 : itemCode (l.getD i dIt) = 0
          · exact h2
          · rw [if_pos h2] at h1; exact h1)
        have K := Lib.hid (implAreTrees_any a k c l wr h20 hdp (H.out.below hb))
        have HC3 := Lib.hid (HC2.out HK.out)
        clear hdp
        generalize moreStands l = st at K HC3
        clear HC1 HC2
        cases st
        all_goals
          go_wp2_with fail
          refine K.out.mono ?_
          rintro e w2 ⟨rfl, nd, rfl⟩
          go_wp2
          go_ret
          exact ⟨ret_i HC3.out.symm, below_drewN hb nd⟩
end Go.Proofs.YticpebpicdboaaaGreatDoor
