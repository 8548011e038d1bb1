/- Contract of the model's l1Chars. -/
import Derived.Test.YtlhflkpbccbofaaDoorSpecPts2
namespace Go.Proofs.YtlhflkpbccbofaaDoor
open Go.ChangeShapes Go.WideShapes Go.ChangeAt Go.RowKit
set_option linter.unusedVariables false

theorem charsB_eq (l : List UInt8) : charsB l = ((pts l).isSome && ((pts l).getD []).all charB) := by
  unfold charsB pts
  have h : (strm l).all goodB = ((strm l).all (·.2) && ((strm l).map (·.1)).all charB) := by
    induction strm l with
    | nil => rfl
    | cons x r ih =>
      simp only [List.all_cons, List.map_cons, ih, goodB]
      cases x.2 <;> cases charB x.1 <;> simp
  rw [h]
  cases (strm l).all (·.2) <;> simp

theorem allTake_succ (L : List Int) (k : Nat) (h : k < L.length) (f : Int → Bool) : (L.take (k + 1)).all f = ((L.take k).all f && f (L.getD k 0)) := by
  rw [List.take_succ_eq_append_getElem h, List.all_append, List.getD_eq_getElem?_getD, List.getElem?_eq_getElem h]
  simp only [List.all_cons, List.all_nil, Bool.and_true, Option.getD_some]

set_option maxHeartbeats 1600000 in
theorem l1Chars_any (s : ByteArray) (hs : s.size ≤ 1048576) (w : World) :
    Calls Tryd.prog 51 #[.string s] w fun e w' => e = .returned (.bool (charsB s.data.toList)) ∧ Below w.heap.size w w' := by
  rw [charsB_eq]
  have hln : ((pts s.data.toList).getD []).length ≤ s.size := by
    unfold pts
    split
    · have := strm_len s.data.toList
      rw [show s.data.toList.length = s.size by simp] at this
      simpa using this
    · simp
  have K := Lib.hid (l1Points_any s hs)
  unfold PtsRes at K
  generalize (pts s.data.toList).isSome = ok0 at K
  generalize (pts s.data.toList).getD [] = L at K hln
  go_enter Tryd.func51, Tryd.ntmps51
  go_wp2_with fail
  refine (K.out _).mono ?_
  rintro e w1 ⟨a, n, c, rfl, ho, hb⟩
  have hnl := owns_length ho
  have HR := Lib.hid (Row.of_owns ho)
  have HB := Lib.hid hb
  have hn1 : n ≤ s.size := by omega
  have HNL := Lib.hid hnl
  clear ho hb hnl
  go_wp2
  go_loop [4, 13] (fun b i => ∃ k : Nat, k ≤ n ∧ i = .int .i64 k ∧ b = .bool (ok0 && (L.take k).all charB)) (fun _ i => n - (intOf i).toNat)
  case atStart => exact ⟨0, Nat.zero_le _, rfl, by simp⟩
  case round =>
    obtain ⟨k, hk, rfl, rfl⟩ := hrel
    by_cases hlt : k < n
    · rcases HR.out with ⟨hv, h0⟩ | ⟨b, o, cap, hv, h1, h2, h3, h4⟩
      · exfalso
        have := HNL.out
        rw [h0] at this
        simp at this
        omega
      · simp only [Value.slice.injEq] at hv
        obtain ⟨rfl, hnn, rfl⟩ := hv
        have hc := h4 k (by omega)
        have hsu := allTake_succ L k (by omega) charB
        generalize L.getD k 0 = pt at hc hsu
        have HSU := Lib.hid hsu
        have HNN := Lib.hid hnn
        clear hsu h4 hnn
        generalize hbb : (ok0 && (L.take k).all charB) = bb
        have HBB := Lib.hid hbb
        clear hbb
        cases bb
        · go_wp2
          go_round
          case rel => exact ⟨k + 1, by omega, by go_num, by rw [HSU.out, ← Bool.and_assoc, HBB.out]; rfl⟩
          case measure => simp [intOf]; omega
        · go_wp2_with fail
          refine (specIsChar_any pt _).mono ?_
          rintro e w2 ⟨rfl, rfl⟩
          go_wp2
          go_round
          case rel => exact ⟨k + 1, by omega, by go_num, by rw [HSU.out, ← Bool.and_assoc, HBB.out]; rfl⟩
          case measure => simp [intOf]; omega
    · obtain rfl : k = n := by omega
      generalize hbb : (ok0 && (L.take k).all charB) = bb
      have HBB := Lib.hid hbb
      clear hbb
      go_wp2
      go_ret
      refine ⟨ret_bool ?_, HB.out⟩
      rw [← HBB.out, HNL.out, List.take_length]

end Go.Proofs.YtlhflkpbccbofaaDoor
