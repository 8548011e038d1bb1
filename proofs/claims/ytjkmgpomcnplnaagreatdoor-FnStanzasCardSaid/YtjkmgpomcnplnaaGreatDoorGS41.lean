/- spec.l4Shape. -/
import Derived.Test.YtjkmgpomcnplnaaGreatDoorGS6
import Derived.Test.YtjkmgpomcnplnaaGreatDoorGS7
import Derived.IntWalk
namespace Go.Proofs.YtjkmgpomcnplnaaGreatDoor
open Go.ChangeShapes Go.WideShapes Go.ChangeAt Go.RowKit
set_option linter.unusedVariables false
set_option maxRecDepth 100000 in
set_option maxHeartbeats 6400000 in
theorem specShape_any (a : Option Addr) (n c : Nat) (l : List It) (w : World) (h1 : 1 ≤ n) (h40 : n ≤ 40) (hd : ∀ i, i < n → 0 ≤ (l.getD i dIt).depth ∧ (l.getD i dIt).depth ≤ 6) (h : ItsAt w a n c l) :
    Calls Tryz.prog 82 #[.slice a n c] w fun e w' => e = .returned (.bool (stands l)) ∧ ∃ n, w' = w.drewN n := by
  have HL := Lib.hid h.len
  have HD := Lib.hid hd
  obtain ⟨b, o, rfl, h4⟩ : ∃ b o, a = some ⟨b, o, none⟩ ∧ ∀ i, i < n → ItAt w b (o + i * 5) (l.getD i dIt) := by
    rcases h.row with e | h
    · omega
    · exact h
  have H4 := Lib.hid h4
  have HNO : Hid (¬ ((l.getD 0 dIt).depth = 0 ∧ (l.getD 0 dIt).name.toList.isEmpty = false) → stands l = false) := Lib.hid stands_first
  have HNO2 : Hid (∀ i, 1 ≤ i → i < n → mayStand (l.getD (i - 1) dIt) (l.getD i dIt) = false → stands l = false) := Lib.hid fun i h1 h2 h3 => stands_no h1 (by have := h.len; omega) h3
  have HYES : Hid ((l.getD 0 dIt).depth = 0 → (l.getD 0 dIt).name.toList.isEmpty = false → (∀ i, 1 ≤ i → i < n → mayStand (l.getD (i - 1) dIt) (l.getD i dIt) = true) → stands l = true) := Lib.hid fun g0 g1 g2 => stands_yes g0 g1 fun i h1 h2 => g2 i h1 (by have := h.len; omega)
  clear h h4 hd
  generalize stands l = st at HNO HNO2 HYES
  have hi := H4.out 0 (by omega)
  have d0 : w.cell? ⟨b, o, none⟩ = some (.int .i64 (l.getD 0 dIt).depth) := by have := hi.c0; simpa using this
  have d3 : w.cell? ⟨b, o + 3, none⟩ = some (.string (l.getD 0 dIt).name) := by have := hi.c3; simpa using this
  clear hi
  have k0 : (0 : Int) < (n : Int) := by omega
  generalize l.getD 0 dIt = x at d0 d3 HNO HYES
  obtain ⟨xd, xt, xs, xn, xa⟩ := x
  dsimp only at d0 d3 HNO HYES
  by_cases hx0 : xd = 0
  · subst hx0
    cases hx3 : xn.toList.isEmpty
    · have HY2 := Lib.hid (HYES.out rfl hx3)
      clear HNO HYES
      go_enter Tryz.func82, Tryz.ntmps82
      go_wp2
      clear d0 d3 hx3
      go_loopw [3] (fun i wr => ∃ k : Nat, 1 ≤ k ∧ k ≤ n ∧ i = .int .i64 k ∧ (∀ j, 1 ≤ j → j < k → mayStand (l.getD (j - 1) dIt) (l.getD j dIt) = true) ∧ ∃ nd, wr = w.drewN nd) (fun i _ => n - (intOf i).toNat)
      case atStart => exact ⟨1, Nat.le_refl _, by omega, rfl, fun j h1 h2 => by omega, 0, rfl⟩
      case round =>
        obtain ⟨k, hk1, hk, rfl, hz, hw⟩ := hrel
        have HW := Lib.hid hw
        have HZ := Lib.hid hz
        clear hz hw
        by_cases hlt : k < n
        · have hbw : Below w.heap.size w wr := by obtain ⟨nd, rfl⟩ := HW.out; exact below_drewN (Below.refl _ _) nd
          have hi := (H4.out k hlt).below hbw
          have hj := (H4.out (k - 1) (by omega)).below hbw
          have d0 := hi.c0
          have d3 := hi.c3
          have e0 := hj.c0
          have e3 := hj.c3
          have hdx := HD.out k hlt
          have hdp := HD.out (k - 1) (by omega)
          clear hi hj hbw
          have HN2 : Hid (mayStand (l.getD (k - 1) dIt) (l.getD k dIt) = false → st = false) := Lib.hid (HNO2.out k hk1 hlt)
          have HY3 : Hid (mayStand (l.getD (k - 1) dIt) (l.getD k dIt) = true → ∀ j, 1 ≤ j → j < k + 1 → mayStand (l.getD (j - 1) dIt) (l.getD j dIt) = true) := Lib.hid fun e j h1 h2 => by
            rcases Nat.lt_or_ge j k with h | h
            · exact HZ.out j h1 h
            · obtain rfl : j = k := by omega
              exact e
          have q5 : (0 : Int) ≤ (k : Int) - 1 := by omega
          have q6 : (1 : Int) ≤ (k : Int) := by omega
          have q7 : (k : Int) - 1 < (n : Int) := by omega
          have q8 : (k : Int) < (n : Int) := by omega
          generalize l.getD k dIt = x at d0 d3 hdx HN2 HY3
          generalize l.getD (k - 1) dIt = p at e0 e3 hdp HN2 HY3
          obtain ⟨xd, xt, xs, xn, xa⟩ := x
          obtain ⟨pd, pt, ps, pn, pa⟩ := p
          unfold mayStand at HN2 HY3
          dsimp only at d0 d3 e0 e3 hdx hdp HN2 HY3
          have hw1 : IntKind.i64.wrap (pd + 1) = pd + 1 := IntWalk.i64_in _ (by omega)
          have hw2 : wrap64 (pd + 1) = pd + 1 := IntWalk.wrap64_in _ (by omega)
          obtain ⟨xe, hxe⟩ : ∃ xe, xn.toList.isEmpty = xe := ⟨_, rfl⟩
          obtain ⟨pe, hpe⟩ : ∃ pe, pn.toList.isEmpty = pe := ⟨_, rfl⟩
          rw [hxe, hpe] at HN2 HY3
          cases hst : standB xd pd xe pe
          · have HF := Lib.hid (HN2.out hst)
            rcases stand_no hst with g0 | ⟨g0, g1⟩ | ⟨g0, g1, g2, rfl⟩ | ⟨g0, g1, g2, rfl, rfl, g3⟩
            all_goals
              clear HN2 HY3 hst
              go_wp2_with fail
              go_quiet (fail)
              go_wp2
              go_ret
              exact ⟨ret_bool HF.out.symm, drew_more HW.out _⟩
          · have HF := Lib.hid (HY3.out hst)
            rcases stand_yes hst with ⟨g0, g1, g2, rfl, rfl⟩ | ⟨g0, g1, g2, rfl, rfl⟩ | ⟨g0, g1, g2, rfl⟩ | ⟨g0, g1, g2, rfl, rfl⟩ | ⟨g0, g1, g2, rfl, rfl, g3⟩
            all_goals
              clear HN2 HY3 hst
              go_wp2_with fail
              go_quiet (fail)
              go_wp2
              go_roundw
              case rel => exact ⟨k + 1, by omega, by omega, by go_num, HF.out, drew_more HW.out _⟩
              case measure => simp [intOf]; omega
        · have HF : st = true := HY2.out fun i h1 h2 => HZ.out i h1 (by omega)
          go_wp2
          go_ret
          exact ⟨ret_bool HF.symm, HW.out⟩
    · have HF := Lib.hid (HNO.out (fun e => by have := e.2; rw [hx3] at this; cases this))
      go_enter Tryz.func82, Tryz.ntmps82
      go_wp2
      go_ret
      exact ⟨ret_bool HF.out.symm, 0, rfl⟩
  · have HF := Lib.hid (HNO.out (fun e => hx0 e.1))
    have q1 : (xd != 0) = true := by simpa using hx0
    have q2 : (xd == 0) = false := by simpa using hx0
    clear hx0
    go_enter Tryz.func82, Tryz.ntmps82
    go_wp2
    go_ret
    exact ⟨ret_bool HF.out.symm, 0, rfl⟩
end Go.Proofs.YtjkmgpomcnplnaaGreatDoor
