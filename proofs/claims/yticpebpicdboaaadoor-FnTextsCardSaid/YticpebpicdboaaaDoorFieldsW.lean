/- The pieces of a text between blanks, as the program finds them, are its words (plain). -/
import Derived.Test.YticpebpicdboaaaDoorWordsOf
import Derived.Lib.FieldsP
import Derived.Lib.SpaceUEq
import Derived.Laws.RangeAny
namespace Go.Proofs.YticpebpicdboaaaDoor
open Go.ChangeShapes Go.WideShapes Go.ChangeAt Go.RowKit
set_option linter.unusedVariables false

theorem dec_step (s : ByteArray) (pos : Nat) (h : pos < s.size) :
    1 ≤ (Utf8.decode s pos).2 ∧ pos + (Utf8.decode s pos).2 ≤ s.size ∧ (s[pos] = 32 → Utf8.decode s pos = (32, 1)) ∧ (s[pos] ≠ 32 → (Utf8.decode s pos).1 ≠ 32) ∧ (∀ j, pos < j → j < pos + (Utf8.decode s pos).2 → ∀ hj : j < s.size, s[j] ≠ 32) := by
  have hc := Lib.decodeN_conts (s.size - pos) (s.get! pos).toNat (s.get! (pos + 1)).toNat (s.get! (pos + 2)).toNat (s.get! (pos + 3)).toNat
  rw [← Lib.decode_at] at hc
  obtain ⟨c2, c3, c4, c5⟩ := hc
  have hg : ∀ j, ∀ hj : j < s.size, s.get! j = s[j] := fun j hj => by simp [ByteArray.get!, getElem!_pos, hj]; rfl
  have h1 : 1 ≤ (Utf8.decode s pos).2 ∧ (s[pos] = 32 → Utf8.decode s pos = (32, 1)) ∧ (s[pos] ≠ 32 → (Utf8.decode s pos).1 ≠ 32) := by
    by_cases ha : (s[pos]).toNat < 128
    · have e := decode_ascii s pos h ha
      rw [e]
      refine ⟨Nat.le_refl _, fun e2 => by rw [e2]; rfl, fun e2 e3 => e2 ?_⟩
      exact UInt8.toNat_inj.1 e3
    · have e := decode_high s pos h (by omega)
      refine ⟨e.2, fun e2 => ?_, fun _ => by omega⟩
      rw [e2] at ha
      exact absurd (by decide) ha
  refine ⟨h1.1, ?_, h1.2.1, h1.2.2, fun j hj1 hj2 hj e => ?_⟩
  · by_cases e4 : 4 ≤ (Utf8.decode s pos).2
    · have := c4 e4; omega
    · by_cases e3 : 3 ≤ (Utf8.decode s pos).2
      · have := c3 e3; omega
      · by_cases e2 : 2 ≤ (Utf8.decode s pos).2
        · have := c2 e2; omega
        · omega
  · have hk : (s.get! j).toNat / 64 = 2 := by
      have : j = pos + 1 ∨ j = pos + 2 ∨ j = pos + 3 := by omega
      rcases this with rfl | rfl | rfl
      · exact (c2 (by omega)).1
      · exact (c3 (by omega)).1
      · exact (c4 (by omega)).1
    rw [hg j hj, e] at hk
    exact absurd hk (by decide)
theorem cutS_skip {s : ByteArray} {fr : Nat} {o : List ByteArray} {pos : Nat} (h : cutS s 32 pos = (fr, o)) : ∀ k, pos + k ≤ s.size → (∀ j, pos ≤ j → j < pos + k → ∀ hj : j < s.size, s[j] ≠ 32) → cutS s 32 (pos + k) = (fr, o)
  | 0, _, _ => h
  | k + 1, hk, hn => by
    have h1 := cutS_skip h k (by omega) (fun j g1 g2 => hn j g1 (by omega))
    have hk2 : pos + k < s.size := by rw [← Nat.add_assoc] at hk; omega
    refine cutS_miss h1 hk2 (fun e => hn (pos + k) (by omega) (by omega) hk2 (UInt8.toNat_inj.1 ?_))
    have e2 : ((s[pos + k].toNat : Nat) : Int) = 32 := e
    have e3 : s[pos + k].toNat = 32 := by omega
    exact e3
def fullB (p : ByteArray) : Bool := !(p.toList.isEmpty)
theorem full_ext {s : ByteArray} {a b : Nat} (h : a < b) (hb : b ≤ s.size) : fullB (s.extract a b) = true := by
  unfold fullB
  have : (s.extract a b).toList ≠ [] := by
    intro e
    have h2 := congrArg List.length e
    rw [ByteArray.toList_eq] at h2
    simp at h2
    omega
  cases hl : (s.extract a b).toList with
  | nil => exact absurd hl this
  | cons x t => rfl
theorem full_none (s : ByteArray) (a : Nat) : fullB (s.extract a a) = false := by
  have e : s.extract a a = ByteArray.empty := by
    apply ByteArray.ext
    simp
  rw [e]
  unfold fullB
  rw [ByteArray.toList_eq]
  rfl
/-- what has been cut so far, in spans -/
def SpanSt (s : ByteArray) (pos : Nat) (st : Option Nat) (acc : List (Nat × Nat)) : Prop :=
  ∃ fr o, cutS s 32 pos = (fr, o) ∧ acc.map (fun x => s.extract x.1 x.2) = o.filter fullB ∧ ((st = none ∧ fr = pos) ∨ (st = some fr ∧ fr < pos))
theorem spans_words (s : ByteArray) : ∀ (f pos : Nat) (st : Option Nat) (acc : List (Nat × Nat)), s.size ≤ pos + f → pos ≤ s.size → SpanSt s pos st acc →
    (Lib.closeSpans s (Lib.spansFromP (fun r => decide (r = 32)) s f pos st acc)).map (fun x => s.extract x.1 x.2) = wordsT s
  | f, pos, st, acc, hf, hp, hs => by
    by_cases hlt : pos < s.size
    · obtain ⟨g, rfl⟩ : ∃ g, f = g + 1 := ⟨f - 1, by omega⟩
      obtain ⟨w1, w2, w3, w4, w5⟩ := dec_step s pos hlt
      obtain ⟨fr, o, h1, h2, h3⟩ := hs
      unfold Lib.spansFromP
      rw [if_pos hlt]
      by_cases hc : s[pos] = 32
      · rw [w3 hc]
        dsimp only
        rw [if_pos (by simp)]
        have hh := cutS_hit h1 hlt (by rw [hc]; rfl)
        rcases h3 with ⟨rfl, rfl⟩ | ⟨rfl, h4⟩
        · refine spans_words s g (fr + 1) none acc (by omega) (by omega) ⟨_, _, hh, ?_, .inl ⟨rfl, rfl⟩⟩
          rw [List.filter_append, List.filter_cons, full_none]
          simpa using h2
        · refine spans_words s g (pos + 1) none _ (by omega) (by omega) ⟨_, _, hh, ?_, .inl ⟨rfl, rfl⟩⟩
          rw [List.filter_append, List.filter_cons, full_ext h4 (by omega), List.map_append, h2]
          rfl
      · have hne := w4 hc
        have hsk := cutS_skip h1 _ w2 (fun j g1 g2 hj => by
          by_cases e : j = pos
          · subst e; exact hc
          · exact w5 j (by omega) g2 hj)
        rw [if_neg (by simpa using hne)]
        rcases h3 with ⟨rfl, rfl⟩ | ⟨rfl, h4⟩
        · exact spans_words s g _ _ acc (by omega) w2 ⟨_, _, hsk, h2, .inr ⟨rfl, by omega⟩⟩
        · exact spans_words s g _ _ acc (by omega) w2 ⟨_, _, hsk, h2, .inr ⟨rfl, by omega⟩⟩
    · obtain rfl : pos = s.size := by omega
      obtain ⟨fr, o, h1, h2, h3⟩ := hs
      have he : Lib.spansFromP (fun r => decide (r = 32)) s f s.size st acc = (acc, st) := by
        cases f with
        | zero => rfl
        | succ f => simp [Lib.spansFromP]
      rw [he]
      have hw : wordsT s = (o ++ [s.extract fr s.size]).filter fullB := by
        unfold wordsT cutT
        rw [h1]
        rfl
      rw [hw, List.filter_append, List.filter_cons]
      unfold Lib.closeSpans
      rcases h3 with ⟨rfl, rfl⟩ | ⟨rfl, h4⟩
      · dsimp only
        rw [full_none, h2]
        simp
      · dsimp only
        rw [full_ext h4 (by omega), List.map_append, h2]
        rfl
  termination_by f => f
theorem fields_words (s : ByteArray) : Lib.goFieldsP (fun r => decide (r = 32)) s = wordsT s := by
  unfold Lib.goFieldsP Lib.spansOfP
  exact spans_words s s.size 0 none [] (by omega) (Nat.zero_le _) ⟨0, [], rfl, rfl, .inl ⟨rfl, rfl⟩⟩
end Go.Proofs.YticpebpicdboaaaDoor
