/- The words of a line: the model's l11Words, WordsOf, l11Rest, RestOf. -/
import Derived.Test.YticpebpicdboaaaDoorCut
namespace Go.Proofs.YticpebpicdboaaaDoor
open Go.ChangeShapes Go.WideShapes Go.ChangeAt Go.RowKit
set_option linter.unusedVariables false

/-- the words of a text: its pieces between blanks that are not empty -/
def wordsT (s : ByteArray) : List ByteArray := (cutT s 32).filter fun p => !(p.toList.isEmpty)
theorem cutT_length (s : ByteArray) (c : Int) : (cutT s c).length ≤ s.size + 1 := by
  unfold cutT
  have := (cutS_le s c s.size).2
  simp
  omega
theorem filt_succ (l : List ByteArray) (k : Nat) (h : k < l.length) (p : ByteArray → Bool) : (l.take (k + 1)).filter p = (l.take k).filter p ++ (if p (l.getD k ByteArray.empty) then [l.getD k ByteArray.empty] else []) := by
  rw [List.take_succ_eq_append_getElem h, List.filter_append, List.getD_eq_getElem?_getD, List.getElem?_eq_getElem h]
  simp only [Option.getD_some, List.filter_cons, List.filter_nil]

set_option maxRecDepth 100000 in
set_option maxHeartbeats 1600000 in
theorem l11Words_any (s : ByteArray) (hs : s.size ≤ 1048576) (w : World) :
    Calls Tryd.prog 29 #[.string s] w (OwnsStr w (wordsT s)) := by
  obtain ⟨i0, hi, hz0, hz1, hz2⟩ := info_parts strInfo
  have K := Lib.hid (fun W => l1Cut_any s 32 hs W)
  unfold OwnsStr at K
  have hlen := cutT_length s 32
  unfold OwnsStr
  unfold wordsT
  generalize cutT s 32 = T at K hlen ⊢
  generalize hR : (T.filter fun p => !(p.toList.isEmpty)) = R
  have HR := Lib.hid hR
  clear hR
  have hlit := Lib.hid (World.ownsRow_lit (base := w.heap.size) (e := 9) (size := 1) w #[] 0 (Nat.le_refl _) (by decide) (by simp))
  go_enter Tryd.func29, Tryd.ntmps29
  go_wp2_with fail
  refine (K.out _).mono ?_
  rintro e w1 ⟨a1, c1, rfl, ho1, hb1⟩
  have HO1 := Lib.hid ho1
  have HB1 := Lib.hid hb1
  have HLIT := Lib.hid (owns_below hlit.out hb1)
  have hz := hb1.size
  simp at hz
  clear ho1 hb1 hlit
  have HAP : Hid (∀ b, (Value.slice a1 T.length c1).ownBlock = some b → w.heap.size < b ∧ b < w1.heap.size) := Lib.hid (fun b hb => by have := HO1.out.lt b hb; simp at this; omega)
  go_wp2
  go_loopw [3, 5] (fun v i wr => ∃ (k m : Nat) (x : Option Addr) (q : Nat) (o : List ByteArray), i = .int .i64 k ∧ v = .slice x m q ∧ m = o.length ∧ k ≤ T.length ∧ m ≤ k ∧ Hid (o = (T.take k).filter fun p => !(p.toList.isEmpty)) ∧ wr.ownsRow w.heap.size 9 1 (.slice x m q) m (o.map Value.string) ∧
      (∀ b, (Value.slice x m q).ownBlock = some b → b = w.heap.size ∨ w1.heap.size ≤ b) ∧ w1.heap.size ≤ wr.heap.size ∧ wr.ownsRow w.heap.size 9 1 (.slice a1 T.length c1) T.length (T.map Value.string) ∧ Below w.heap.size w wr) (fun _ i _ => T.length - (intOf i).toNat)
  case atStart =>
    exact ⟨0, 0, _, _, [], rfl, rfl, rfl, Nat.zero_le _, Nat.le_refl _, Lib.hid rfl, HLIT.out, fun b hb => by simp [Value.ownBlock] at hb; exact .inl hb.symm, Nat.le_refl _, owns_mono HO1.out (by simp), (below1 w _).trans (HB1.out.mono (by simp))⟩
  case round =>
    obtain ⟨k, m, x, q, o, rfl, rfl, hm, hk, hmk, HF, ho, hap, hge, hpt, hb⟩ := hrel
    have HM := Lib.hid hm
    have HO := Lib.hid ho
    have HA := Lib.hid hap
    have HP := Lib.hid hpt
    have HBL := Lib.hid hb
    clear hm ho hap hb
    by_cases hlt : k < T.length
    · obtain ⟨g, rfl⟩ : ∃ g, a1 = some ⟨g, 0, none⟩ := by
        rcases hpt.2 with ⟨hv, h0⟩ | ⟨g, cap, cur, hv, _⟩
        · omega
        · simp only [Value.slice.injEq] at hv
          exact ⟨_, hv.1⟩
      have hc := hpt.cellAt k (by omega)
      rw [List.getElem?_map, List.getElem?_eq_getElem hlt, Option.map_some] at hc
      have hF := filt_succ T k hlt (fun p => !(p.toList.isEmpty))
      rw [List.getD_eq_getElem?_getD, List.getElem?_eq_getElem hlt, Option.getD_some, ← HF.out] at hF
      generalize T[k] = t at hc hF
      have HF2 := Lib.hid hF
      clear hF hpt
      cases he : t.toList.isEmpty
      · have HF3 : Hid (o ++ [t] = (T.take (k + 1)).filter fun p => !(p.toList.isEmpty)) := Lib.hid (by rw [HF2.out, he]; rfl)
        go_wp2_with (at_builtin; refine wpList_append_own_at _ rfl _ _ 30 rfl w.heap.size 9 i0 _ 1 16 Tryd.underlying30 hi hz0 hz1 hz2 rfl (by decide) _ m _ rfl (HO.out.alloc _) ⟨wr.heap.size, 0, none⟩ 1 1 [.string t] rfl rfl ?c1 ?c2 ?c3 ?c4 ?c5 ?_)
        case c1 => exact strCells1 wr _
        case c2 => intro v hv; simp at hv; subst hv; rfl
        case c3 => unfold maxLen; omega
        case c4 => omega
        case c5 => have := HBL.out.size; simp; omega
        intro v' w2 hown' hgrow _ hat
        obtain ⟨a2, c2, rfl⟩ := owns_slice hown'
        have HA2 : Hid (∀ b, (Value.slice a2 (m + 1) c2).ownBlock = some b → b = w.heap.size ∨ w1.heap.size ≤ b) := Lib.hid (by
          intro b hb
          rcases hat with h | h
          · exact HA.out b (h ▸ hb)
          · rw [h] at hb
            simp at hb
            omega)
        have HP2 := Lib.hid ((HP.out.alloc (.cells #[.string t] 9)).kept hgrow (by
          cases hb : (Value.slice (some ⟨g, 0, none⟩) T.length c1).ownBlock with
          | none => exact .inl rfl
          | some b =>
            refine .inr fun h => ?_
            have h1 := HAP.out b hb
            rcases HA.out b h.symm with h2 | h2 <;> omega))
        have hsz2 := hgrow.size
        simp at hsz2
        have HO2 := Lib.hid hown'
        have HB2 := Lib.hid (below_appended HBL.out HO.out hgrow)
        clear hown' hgrow hat
        go_wp2
        go_roundw
        case rel => exact ⟨k + 1, m + 1, a2, c2, o ++ [t], by go_num, rfl, by rw [List.length_append, ← HM.out]; rfl, by omega, by omega, HF3, by rw [List.map_append]; exact HO2.out, HA2.out, by omega, HP2.out, HB2.out⟩
        case measure => simp [intOf]; omega
      · have HF3 : Hid (o = (T.take (k + 1)).filter fun p => !(p.toList.isEmpty)) := Lib.hid (by rw [HF2.out, he]; simp)
        go_wp2
        go_roundw
        case rel => exact ⟨k + 1, m, x, q, o, by go_num, rfl, HM.out, by omega, by omega, HF3, HO.out, HA.out, hge, HP.out, HBL.out⟩
        case measure => simp [intOf]; omega
    · obtain rfl : k = T.length := by omega
      go_wp2
      go_ret
      have h1 : o = R := by rw [HF.out, List.take_length]; exact HR.out
      have h2 := HM.out
      subst h1
      subst h2
      exact ⟨x, q, rfl, HO.out, HBL.out⟩
end Go.Proofs.YticpebpicdboaaaDoor
