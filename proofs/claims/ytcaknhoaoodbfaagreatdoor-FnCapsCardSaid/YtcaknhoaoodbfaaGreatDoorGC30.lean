/- Plain words on a text put into its place in a rising row. -/
import Derived.Test.YtcaknhoaoodbfaaGreatDoorGC9
namespace Go.Proofs.YtcaknhoaoodbfaaGreatDoor
set_option linter.unusedVariables false

/-- the row L ++ [x] when what stood from place p on has been moved up by one -/
def rowUp (L : List ByteArray) (x : ByteArray) (p : Nat) : List ByteArray := L.take p ++ (match L.drop p with | [] => [x] | y :: ys => y :: y :: ys)
theorem rowUp_start (L : List ByteArray) (x : ByteArray) : rowUp L x L.length = L ++ [x] := by simp [rowUp]
theorem rowUp_length (L : List ByteArray) (x : ByteArray) (p : Nat) (h : p ≤ L.length) : (rowUp L x p).length = L.length + 1 := by
  unfold rowUp
  cases hd : L.drop p with
  | nil =>
    have : L.length ≤ p := List.drop_eq_nil_iff.1 hd
    simp
    omega
  | cons y ys =>
    have h2 : (L.drop p).length = ys.length + 1 := by rw [hd]; rfl
    rw [List.length_drop] at h2
    simp
    omega
theorem rowUp_ahead (L : List ByteArray) (x : ByteArray) (p j : Nat) (h : p ≤ L.length) (hj : j < p) : ix (rowUp L x p) j = ix L j := by
  unfold rowUp ix
  rw [List.getD_eq_getElem?_getD, List.getD_eq_getElem?_getD, List.getElem?_append_left (by simp; omega), List.getElem?_take, if_pos hj]
theorem rowUp_step (L : List ByteArray) (x : ByteArray) (p : Nat) (h : p + 1 ≤ L.length) : (rowUp L x (p + 1)).set (p + 1) (ix (rowUp L x (p + 1)) p) = rowUp L x p := by
  rw [rowUp_ahead L x (p + 1) p h (by omega)]
  have hp : p < L.length := by omega
  have hix : ix L p = L[p] := by unfold ix; rw [List.getD_eq_getElem?_getD, List.getElem?_eq_getElem hp]; rfl
  unfold rowUp
  have hl : (L.take (p + 1)).length = p + 1 := by simp; omega
  rw [List.set_append_right _ _ (by omega), hl, Nat.sub_self, List.drop_eq_getElem_cons hp, hix, List.take_succ_eq_append_getElem hp, List.append_assoc]
  cases hd : L.drop (p + 1) with
  | nil => simp
  | cons y ys => simp
theorem rowUp_put (L : List ByteArray) (x : ByteArray) (p : Nat) (h : p ≤ L.length) : (rowUp L x p).set p x = L.take p ++ x :: L.drop p := by
  have hl : (L.take p).length = p := by simp; omega
  unfold rowUp
  rw [List.set_append_right _ _ (by omega), hl, Nat.sub_self]
  cases hd : L.drop p with
  | nil => simp
  | cons y ys => simp
/-- x put in at p keeps the row rising -/
theorem put_sorts {xs L : List ByteArray} {x : ByteArray} {p : Nat} (h : Sorts xs L) (hp : p ≤ L.length) (hlo : ∀ y ∈ L.take p, leT y x) (hhi : ∀ y ∈ L.drop p, leT x y) : Sorts (xs ++ [x]) (L.take p ++ x :: L.drop p) := by
  refine ⟨?_, ?_⟩
  · have h1 : (L.take p ++ x :: L.drop p).Perm (x :: (L.take p ++ L.drop p)) := List.perm_middle
    rw [List.take_append_drop] at h1
    exact h1.trans ((List.Perm.cons x h.1).trans (List.perm_append_singleton x xs).symm)
  · have hs := h.2
    rw [← List.take_append_drop p L, List.pairwise_append] at hs
    rw [List.pairwise_append, List.pairwise_cons]
    refine ⟨hs.1, ⟨hhi, hs.2.1⟩, fun a ha b hb => ?_⟩
    rcases List.mem_cons.1 hb with rfl | hb
    · exact hlo a ha
    · exact hs.2.2 a ha b hb
/-- in a rising row, what stands ahead of a place is not above what stands there -/
theorem take_le {L : List ByteArray} {x : ByteArray} {p : Nat} (hs : L.Pairwise leT) (hp : p ≤ L.length) (h : p = 0 ∨ leT (ix L (p - 1)) x) : ∀ y ∈ L.take p, leT y x := by
  intro y hy
  rcases h with rfl | h
  · simp at hy
  · obtain ⟨i, hi, rfl⟩ := List.getElem_of_mem hy
    rw [List.length_take] at hi
    have hq : p - 1 < L.length := by omega
    have e : ix L (p - 1) = L[p - 1] := by unfold ix; rw [List.getD_eq_getElem?_getD, List.getElem?_eq_getElem hq]; rfl
    rw [List.getElem_take]
    rw [e] at h
    rcases Nat.lt_or_ge i (p - 1) with h1 | h1
    · exact leT_trans (List.pairwise_iff_getElem.1 hs i (p - 1) (by omega) hq h1) h
    · have : i = p - 1 := by omega
      subst this
      exact h
end Go.Proofs.YtcaknhoaoodbfaaGreatDoor
