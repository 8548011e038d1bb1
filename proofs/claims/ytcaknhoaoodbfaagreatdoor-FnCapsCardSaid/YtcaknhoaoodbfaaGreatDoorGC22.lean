/- spec.l9Has, spec.l9Field. -/
import Derived.Test.YtcaknhoaoodbfaaGreatDoorGC9
import Derived.Test.YtcaknhoaoodbfaaGreatDoorGC21
namespace Go.Proofs.YtcaknhoaoodbfaaGreatDoor
open Go.ChangeShapes Go.WideShapes Go.ChangeAt Go.RowKit
set_option linter.unusedVariables false

set_option maxHeartbeats 800000 in
theorem l9Has_any (s : ByteArray) (c : Int) (w : World) (hs : s.size ≤ 1048576) :
    Calls Tryz.prog 180 #[.string s, .int .u8 c] w fun e w' => e = .returned (.bool (hasB c s)) ∧ w' = w := by
  obtain ⟨bb, hbb⟩ : ∃ bb, hasB c s = bb := ⟨_, rfl⟩
  have H1 : Hid (∀ k (hk : k < s.size), ((s[k].toNat : Int) == c) = true → bb = true) := Lib.hid (fun k hk h => hbb.symm.trans (hasB_at hk h))
  have H2 : Hid ((∀ k (hk : k < s.size), ((s[k].toNat : Int) == c) = false) → bb = false) := Lib.hid (fun h => hbb.symm.trans (hasB_not h))
  rw [hbb]
  clear hbb
  go_enter Tryz.func180, Tryz.ntmps180
  go_wp2
  go_loop [5] (fun i => ∃ k : Nat, k ≤ s.size ∧ i = .int .i64 k ∧ ∀ j (hj : j < s.size), j < k → ((s[j].toNat : Int) == c) = false) (fun i => s.size - (intOf i).toNat)
  case atStart => exact ⟨0, Nat.zero_le _, rfl, fun j hj h => by omega⟩
  case round =>
    obtain ⟨k, hk, rfl, hrest⟩ := hrel
    have HR := Lib.hid hrest
    clear hrest
    by_cases hlt : k < s.size
    · cases hc : ((s[k].toNat : Int) == c)
      · have HN : Hid (∀ j (hj : j < s.size), j < k + 1 → ((s[j].toNat : Int) == c) = false) := Lib.hid (fun j hj h => by
          rcases Nat.lt_or_ge j k with h1 | h1
          · exact HR.out j hj h1
          · obtain rfl : j = k := by omega
            exact hc)
        go_wp2
        go_round
        case rel => exact ⟨k + 1, by omega, by go_num, HN.out⟩
        case measure => simp [intOf]; omega
      · have hb := H1.out k hlt hc
        subst hb
        go_wp2
        go_ret
        exact ⟨rfl, rfl⟩
    · have hb := H2.out (fun j hj => HR.out j hj (by omega))
      subst hb
      go_wp2
      go_ret
      exact ⟨rfl, rfl⟩

set_option maxRecDepth 100000 in
set_option maxHeartbeats 3200000 in
theorem l9Field_any (s : ByteArray) (e sl : Bool) (w : World) (hs : s.size ≤ 1048576) :
    Calls Tryz.prog 108 #[.string s, .bool e, .bool sl] w fun en w' => en = .returned (.bool (fieldB s e sl)) ∧ Below w.heap.size w w' := by
  have KT := Lib.hid (specTextFault_any s hs w)
  have K6 := Lib.hid (fun W => l9Has_any s 60 W hs)
  have K7 := Lib.hid (fun W => l9Has_any s 47 W hs)
  unfold fieldB fldB
  generalize textFault s.data.toList = tf at KT ⊢
  generalize hasB 60 s = b6 at K6 ⊢
  generalize hasB 47 s = b7 at K7 ⊢
  obtain ⟨em, hem⟩ : ∃ em, s.toList.isEmpty = em := ⟨_, rfl⟩
  obtain ⟨q, hq⟩ : ∃ q, (tf == 0) = q := ⟨_, rfl⟩
  rw [hem, hq]
  cases q
  · go_enter Tryz.func108, Tryz.ntmps108
    go_wp2_with fail
    refine KT.out.mono ?_
    rintro en w1 ⟨rfl, hb1⟩
    have B1 := Lib.hid hb1
    clear hb1
    go_wp2
    go_ret
    exact ⟨ret_bool (by simp), B1.out⟩
  cases b6
  · cases e <;> cases em <;> cases sl <;> cases b7
    all_goals
      go_enter Tryz.func108, Tryz.ntmps108
      go_wp2_with fail
      refine KT.out.mono ?_
      rintro en w1 ⟨rfl, hb1⟩
      have B1 := Lib.hid hb1
      clear hb1
      go_wp2_with fail
      refine (K6.out _).mono ?_
      rintro en w2 ⟨rfl, rfl⟩
      go_wp2_with (go_at_call 180; refine (K7.out _).mono ?_; rintro en w2 ⟨rfl, rfl⟩)
      go_ret
      exact ⟨ret_bool (by simp), B1.out⟩
  · go_enter Tryz.func108, Tryz.ntmps108
    go_wp2_with fail
    refine KT.out.mono ?_
    rintro en w1 ⟨rfl, hb1⟩
    have B1 := Lib.hid hb1
    clear hb1
    go_wp2_with fail
    refine (K6.out _).mono ?_
    rintro en w2 ⟨rfl, rfl⟩
    go_wp2
    go_ret
    exact ⟨ret_bool (by simp), B1.out⟩
end Go.Proofs.YtcaknhoaoodbfaaGreatDoor
