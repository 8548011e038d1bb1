/- A text cut at each sign: the model's l1Cut. -/
import Derived.Test.YticpebpicdboaaaDoorTxt
import Derived.Test.YticpebpicdboaaaDoorStepOwn
import Derived.Test.YticpebpicdboaaaDoorRowS
namespace Go.Proofs.YticpebpicdboaaaDoor
open Go.ChangeShapes Go.WideShapes Go.ChangeAt Go.RowKit
set_option linter.unusedVariables false

/-- where the last piece begins, and the pieces ahead of it, of the first k bytes -/
def cutS (s : ByteArray) (c : Int) : Nat → Nat × List ByteArray
  | 0 => (0, [])
  | k + 1 => if ((s.data.toList.getD k 0).toNat : Int) = c then (k + 1, (cutS s c k).2 ++ [s.extract (cutS s c k).1 k]) else cutS s c k
/-- the pieces of a text -/
def cutT (s : ByteArray) (c : Int) : List ByteArray := (cutS s c s.size).2 ++ [s.extract (cutS s c s.size).1 s.size]
theorem cutS_le (s : ByteArray) (c : Int) : ∀ k, (cutS s c k).1 ≤ k ∧ (cutS s c k).2.length ≤ k
  | 0 => by simp [cutS]
  | k + 1 => by
    have := cutS_le s c k
    unfold cutS
    split
    · simp; omega
    · omega
theorem cutS_hit {s : ByteArray} {c : Int} {k f : Nat} {o : List ByteArray} (h : cutS s c k = (f, o)) (hk : k < s.size) (hc : (s[k].toNat : Int) = c) : cutS s c (k + 1) = (k + 1, o ++ [s.extract f k]) := by
  have e : s.data.toList.getD k 0 = s[k] := by rw [List.getD_eq_getElem?_getD, List.getElem?_eq_getElem (by simpa using hk)]; rfl
  unfold cutS
  rw [h, if_pos (by rw [e]; exact hc)]
theorem cutS_miss {s : ByteArray} {c : Int} {k f : Nat} {o : List ByteArray} (h : cutS s c k = (f, o)) (hk : k < s.size) (hc : (s[k].toNat : Int) ≠ c) : cutS s c (k + 1) = (f, o) := by
  have e : s.data.toList.getD k 0 = s[k] := by rw [List.getD_eq_getElem?_getD, List.getElem?_eq_getElem (by simpa using hk)]; rfl
  unfold cutS
  rw [if_neg (by rw [e]; exact hc), h]

set_option maxRecDepth 100000 in
set_option maxHeartbeats 1600000 in
theorem l1Cut_any (s : ByteArray) (c : Int) (hs : s.size ≤ 1048576) (w : World) :
    Calls Tryd.prog 38 #[.string s, .int .u8 c] w (OwnsStr w (cutT s c)) := by
  obtain ⟨i0, hi, hz0, hz1, hz2⟩ := info_parts strInfo
  unfold OwnsStr
  generalize hT : cutT s c = T
  have HT := Lib.hid hT
  clear hT
  go_enter Tryd.func38, Tryd.ntmps38
  go_wp2
  go_loopw [5, 6, 7] (fun v f i wr => ∃ (k m fr : Nat) (x : Option Addr) (q : Nat) (o : List ByteArray), i = .int .i64 k ∧ f = .int .i64 fr ∧ v = .slice x m q ∧ m = o.length ∧ k ≤ s.size + 1 ∧ wr.ownsRow w.heap.size 9 1 (.slice x m q) m (o.map Value.string) ∧ Below w.heap.size w wr ∧
      ((k ≤ s.size ∧ fr ≤ k ∧ m ≤ k ∧ Hid (cutS s c k = (fr, o))) ∨ (k = s.size + 1 ∧ Hid (o = T)))) (fun _ _ i _ => s.size + 1 - (intOf i).toNat)
  case atStart =>
    refine ⟨0, 0, 0, _, _, [], rfl, rfl, rfl, rfl, Nat.zero_le _, ?_, below1 _ _, .inl ⟨Nat.zero_le _, Nat.le_refl _, Nat.le_refl _, Lib.hid rfl⟩⟩
    exact World.ownsRow_lit (base := w.heap.size) (e := 9) (size := 1) w #[] 0 (Nat.le_refl _) (by decide) (by simp)
  case round =>
    obtain ⟨k, m, fr, x, q, o, rfl, rfl, rfl, hm, hk, ho, hb, hcase⟩ := hrel
    have HO := Lib.hid ho
    have HBL := Lib.hid hb
    have HM := Lib.hid hm
    clear ho hb hm
    rcases hcase with ⟨hks, hfr, hmk, HC⟩ | ⟨rfl, HE⟩
    · by_cases hlt : k < s.size
      · by_cases hc : (s[k].toNat : Int) = c
        · have hcc : ((s[k].toNat : Int) == c) = true := by rw [beq_iff_eq]; exact hc
          have HS := Lib.hid (cutS_hit HC.out hlt hc)
          clear hc
          go_wp2_with (at_builtin; refine wpList_append_own _ rfl _ _ 30 rfl w.heap.size 9 i0 (.string ByteArray.empty) 1 16 Tryd.underlying30 hi hz0 hz1 hz2 rfl (by decide) _ _ _ rfl (HO.out.alloc _) ⟨wr.heap.size, 0, none⟩ 1 1 [.string (s.extract fr k)] rfl rfl ?c1 ?c2 ?c3 ?c4 ?c5 ?_)
          case c1 => exact strCells1 wr _
          case c2 => intro v hv; simp at hv; subst hv; rfl
          case c3 => unfold maxLen; omega
          case c4 => omega
          case c5 => have := HBL.out.size; simp; omega
          intro v' w2 hown' hgrow _
          obtain ⟨a2, c2, rfl⟩ := owns_slice hown'
          have HO2 := Lib.hid hown'
          have HB2 := Lib.hid (below_appended HBL.out HO.out hgrow)
          clear hown' hgrow
          go_wp2
          go_roundw
          case rel => exact ⟨k + 1, m + 1, k + 1, a2, c2, o ++ [s.extract fr k], by go_num, by go_num, rfl, by rw [List.length_append, ← HM.out]; rfl, by omega, by rw [List.map_append]; exact HO2.out, HB2.out, .inl ⟨by omega, by omega, by omega, HS⟩⟩
          case measure => simp [intOf]; omega
        · have hcc : ((s[k].toNat : Int) == c) = false := by rw [beq_eq_false_iff_ne]; exact hc
          have HS := Lib.hid (cutS_miss HC.out hlt hc)
          clear hc
          go_wp2
          go_roundw
          case rel => exact ⟨k + 1, m, fr, x, q, o, by go_num, rfl, rfl, HM.out, by omega, HO.out, HBL.out, .inl ⟨by omega, by omega, by omega, HS⟩⟩
          case measure => simp [intOf]; omega
      · obtain rfl : k = s.size := by omega
        have HS : Hid (o ++ [s.extract fr s.size] = T) := Lib.hid (by rw [← HT.out]; unfold cutT; rw [HC.out])
        go_wp2_with (at_builtin; refine wpList_append_own _ rfl _ _ 30 rfl w.heap.size 9 i0 (.string ByteArray.empty) 1 16 Tryd.underlying30 hi hz0 hz1 hz2 rfl (by decide) _ _ _ rfl (HO.out.alloc _) ⟨wr.heap.size, 0, none⟩ 1 1 [.string (s.extract fr s.size)] rfl rfl ?c1 ?c2 ?c3 ?c4 ?c5 ?_)
        case c1 => exact strCells1 wr _
        case c2 => intro v hv; simp at hv; subst hv; rfl
        case c3 => unfold maxLen; omega
        case c4 => omega
        case c5 => have := HBL.out.size; simp; omega
        intro v' w2 hown' hgrow _
        obtain ⟨a2, c2, rfl⟩ := owns_slice hown'
        have HO2 := Lib.hid hown'
        have HB2 := Lib.hid (below_appended HBL.out HO.out hgrow)
        clear hown' hgrow
        go_wp2
        go_roundw
        case rel => exact ⟨s.size + 1, m + 1, s.size + 1, a2, c2, o ++ [s.extract fr s.size], by go_num, by go_num, rfl, by rw [List.length_append, ← HM.out]; rfl, by omega, by rw [List.map_append]; exact HO2.out, HB2.out, .inr ⟨rfl, HS⟩⟩
        case measure => simp [intOf]
    · go_wp2
      go_ret
      have h1 := HE.out
      have h2 := HM.out
      subst h1
      subst h2
      exact ⟨x, q, rfl, HO.out, HBL.out⟩
end Go.Proofs.YticpebpicdboaaaDoor
