/- spec.l7Attr, spec.l7Leaf: rows of attributes and of items that grow. -/
import Derived.Test.YtpafknmfacgccaaGreatDoorGT19
import Derived.IntWalk
namespace Go.Proofs.YtpafknmfacgccaaGreatDoor
open Go.ChangeShapes Go.WideShapes Go.ChangeAt Go.RowKit
set_option linter.unusedVariables false

/-- an attribute more, if it says anything -/
def addAt (es : List At) (nm s : ByteArray) : List At := if s.toList.isEmpty then es else es ++ [⟨nm, s⟩]
theorem flatA_more (es : List At) (nm s : ByteArray) : flatA (es ++ [⟨nm, s⟩]) = flatA es ++ [.string nm, .string s] := by
  apply List.ext_getElem?
  intro j
  by_cases h1 : j < es.length * 2
  · rw [flatA_get _ _ (by simp; omega), List.getElem?_append_left (by rw [flatA_length]; exact h1), flatA_get _ _ h1]
    have e : (es ++ [(⟨nm, s⟩ : At)]).getD (j / 2) dAt = es.getD (j / 2) dAt := by rw [List.getD_eq_getElem?_getD, List.getElem?_append_left (by omega), ← List.getD_eq_getElem?_getD]
    rw [e]
  · by_cases h2 : j < (es.length + 1) * 2
    · rw [flatA_get _ _ (by simp; omega), List.getElem?_append_right (by rw [flatA_length]; omega), flatA_length]
      have e : (es ++ [(⟨nm, s⟩ : At)]).getD (j / 2) dAt = ⟨nm, s⟩ := by
        rw [List.getD_eq_getElem?_getD, List.getElem?_append_right (by omega), show j / 2 - es.length = 0 by omega]; rfl
      rw [e]
      rcases Nat.lt_or_ge j (es.length * 2 + 1) with h3 | h3
      · rw [show j - es.length * 2 = 0 by omega, if_pos (by omega)]; rfl
      · rw [show j - es.length * 2 = 1 by omega, if_neg (by omega)]; rfl
    · rw [List.getElem?_eq_none (by rw [flatA_length]; simp; omega), List.getElem?_eq_none (by rw [List.length_append, flatA_length]; simp; omega)]
theorem atCells (W : World) (x y : ByteArray) (j : Nat) (u : Value) (hj : [Value.string x, Value.string y][j]? = some u) : ((W.alloc (.cells #[.string x, .string y] 66))).cell? (Addr.add ⟨W.heap.size, 0, none⟩ j) = some u := by
  match j, hj with
  | 0, hj => simp at hj; subst hj; simp [Addr.add]
  | 1, hj => simp at hj; subst hj; simp [Addr.add]
theorem itemCells (W : World) (v0 v1 v2 v3 v4 : Value) (j : Nat) (u : Value) (hj : [v0, v1, v2, v3, v4][j]? = some u) : ((W.alloc (.cells #[v0, v1, v2, v3, v4] 68))).cell? (Addr.add ⟨W.heap.size, 0, none⟩ j) = some u := by
  match j, hj with
  | 0, hj => simp at hj; subst hj; simp [Addr.add]
  | 1, hj => simp at hj; subst hj; simp [Addr.add]
  | 2, hj => simp at hj; subst hj; simp [Addr.add]
  | 3, hj => simp at hj; subst hj; simp [Addr.add]
  | 4, hj => simp at hj; subst hj; simp [Addr.add]
/-- a row of attributes with one more, if it says anything -/
def AttrRes (w : World) (B : Nat) (v : Value) (es : List At) (en : Ending) (w' : World) : Prop :=
  ∃ (a : Option Addr) (n c : Nat), en = .returned (.slice a n c) ∧ w'.ownsRow B 66 2 (.slice a n c) n (flatA es) ∧ w.grownBy w' v.ownBlock ∧ ((Value.slice a n c).ownBlock = v.ownBlock ∨ ∃ g, (Value.slice a n c).ownBlock = some g ∧ w.heap.size ≤ g)
set_option maxHeartbeats 1600000 in
theorem l7Attr_any (B : Nat) (a : Option Addr) (n c : Nat) (es : List At) (nm s : ByteArray) (w : World) (hB : B ≤ w.heap.size) (hn : n ≤ 1000) (h : w.ownsRow B 66 2 (.slice a n c) n (flatA es)) :
    Calls Tryz.prog 88 #[.slice a n c, .string nm, .string s] w (AttrRes w B (.slice a n c) (addAt es nm s)) := by
  obtain ⟨i0, hi, hz0, hi1, hz2⟩ := info_parts attrInfo
  have H := Lib.hid h
  unfold AttrRes addAt
  clear h
  cases he : s.toList.isEmpty
  · rw [if_neg (by simp)]
    go_enter Tryz.func88, Tryz.ntmps88
    go_wp2_with (at_builtin; refine wpList_append_own_at _ rfl _ _ 63 rfl B 66 i0 (.agg #[.string ByteArray.empty, .string ByteArray.empty]) 2 32 Tryz.underlying63 hi hz0 hi1 hz2 rfl (by decide) _ n _ rfl (owns_below H.out (below1 _ _)) ⟨w.heap.size, 0, none⟩ 1 1 [.string nm, .string s] rfl rfl ?c1 ?c2 ?c3 ?c4 ?c5 ?_)
    case c1 => exact atCells w nm s
    case c2 => intro v hv; simp at hv; rcases hv with rfl | rfl <;> rfl
    case c3 => unfold maxLen; omega
    case c4 => omega
    case c5 => simp; omega
    intro v' w1 hown hgr _ hat
    obtain ⟨a8, c8, rfl⟩ := owns_slice hown
    have R : Hid (w1.ownsRow B 66 2 (.slice a8 (n + 1) c8) (n + 1) (flatA (es ++ [⟨nm, s⟩]))) := Lib.hid (by rw [flatA_more]; exact hown)
    have G := Lib.hid (show w.grownBy w1 (Value.slice a n c).ownBlock from grown_trans_row ((fun h => (⟨h.os, h.tape, h.output, h.size, fun i hi _ => h.block i hi⟩ : w.grownBy _ (Value.slice a n c).ownBlock)) (below1 w (.cells #[.string nm, .string s] 66))) hgr)
    have AT := Lib.hid (hat.imp id fun e => (⟨w.heap.size + 1, by simpa using e, by omega⟩ : ∃ g, (Value.slice a8 (n + 1) c8).ownBlock = some g ∧ w.heap.size ≤ g))
    clear hown hgr hat
    go_wp2
    go_ret
    exact ⟨_, _, _, rfl, R.out, G.out, AT.out⟩
  · rw [if_pos rfl]
    go_enter Tryz.func88, Tryz.ntmps88
    go_wp2
    go_ret
    exact ⟨a, n, c, rfl, H.out, World.grownBy.refl _ _, .inl rfl⟩

/-- an element with a text in it -/
def leafL (d : Int) (sp nm t : ByteArray) : List It := ⟨d, ByteArray.empty, sp, nm, []⟩ :: (if t.toList.isEmpty then [] else [⟨d + 1, t, ByteArray.empty, ByteArray.empty, []⟩])
/-- a row of items that has grown -/
def GrownRes (w : World) (B : Nat) (v : Value) (l : List It) (en : Ending) (w' : World) : Prop :=
  ∃ (a : Option Addr) (n c : Nat) (A : Nat → Option Addr) (N C : Nat → Nat), en = .returned (.slice a n c) ∧ GrowIts w' B (.slice a n c) n l A N C ∧ w.grownBy w' v.ownBlock ∧ ((Value.slice a n c).ownBlock = v.ownBlock ∨ ∃ g, (Value.slice a n c).ownBlock = some g ∧ w.heap.size ≤ g)
theorem bareAts (w : World) (lo hi : Nat) : OwnAts w lo hi none 0 0 [] := ⟨⟨rfl, by omega, fun i => by simp [dAt], .inl rfl⟩, .inl rfl⟩
end Go.Proofs.YtpafknmfacgccaaGreatDoor

/- spec.l7Leaf. -/
namespace Go.Proofs.YtpafknmfacgccaaGreatDoor
open Go.ChangeShapes Go.WideShapes Go.ChangeAt Go.RowKit
set_option linter.unusedVariables false

theorem grown_made {w : World} (o : Obj) (r : Option Nat) : w.grownBy (w.alloc o) r := (fun h => ⟨h.os, h.tape, h.output, h.size, fun i hi _ => h.block i hi⟩ : Below w.heap.size w (w.alloc o) → _) (below1 w o)
theorem grown_in {a b c : World} {x : Option Nat} {g : Nat} (h : a.grownBy b x) (hg : b.grownBy c (some g)) (hr : a.heap.size ≤ g) : a.grownBy c x :=
  ⟨hg.os.trans h.os, hg.tape.trans h.tape, hg.output.trans h.output, Nat.le_trans h.size hg.size, fun i hi hne => (hg.block i (Nat.lt_of_lt_of_le hi h.size) (fun e => by cases e; omega)).trans (h.block i hi hne)⟩
set_option maxRecDepth 100000 in
set_option maxHeartbeats 3200000 in
theorem l7Leaf_any (B : Nat) (a : Option Addr) (n c : Nat) (l : List It) (A : Nat → Option Addr) (N C : Nat → Nat) (d : Int) (sp nm t : ByteArray) (w : World) (hB : B ≤ w.heap.size) (hn : n ≤ 1000) (hd : -1000 ≤ d ∧ d ≤ 1000) (h : GrowIts w B (.slice a n c) n l A N C) :
    Calls Tryz.prog 54 #[.slice a n c, .int .i64 d, .string sp, .string nm, .string t] w (GrownRes w B (.slice a n c) (l ++ leafL d sp nm t)) := by
  obtain ⟨i0, hi, hz0, hi1, hz2⟩ := info_parts itemInfo
  have hw1 : IntKind.i64.wrap (d + 1) = d + 1 := IntWalk.i64_in _ (by omega)
  have hw2 : wrap64 (d + 1) = d + 1 := IntWalk.wrap64_in _ (by omega)
  have H := Lib.hid h
  unfold GrownRes leafL
  obtain ⟨tl, ht⟩ : ∃ tl, (if t.toList.isEmpty then [] else [(⟨d + 1, t, ByteArray.empty, ByteArray.empty, []⟩ : It)]) = tl := ⟨_, rfl⟩
  rw [ht]
  have HTL := Lib.hid ht
  clear h ht
  go_enter Tryz.func54, Tryz.ntmps54
  go_wp2_with (at_builtin; refine wpList_append_own_at _ rfl _ _ 24 rfl B 68 i0 (.agg #[.int .i64 0, .string ByteArray.empty, .string ByteArray.empty, .string ByteArray.empty, .slice none 0 0]) 5 80 Tryz.underlying24 hi hz0 hi1 hz2 rfl (by decide) _ n _ rfl (H.out.row.alloc _) ⟨w.heap.size, 0, none⟩ 1 1 [.int .i64 d, .string ⟨#[]⟩, .string sp, .string nm, .slice none 0 0] rfl rfl ?c1 ?c2 ?c3 ?c4 ?c5 ?_)
  case c1 => exact fun j u hj => itemCells w _ _ _ _ _ j u hj
  case c2 => intro v hv; simp at hv; rcases hv with rfl | rfl | rfl | rfl | rfl <;> rfl
  case c3 => unfold maxLen; omega
  case c4 => omega
  case c5 => simp; omega
  intro v' w1 hown hgr _ hat
  obtain ⟨a1, c1, rfl⟩ := owns_slice hown
  have G1 := Lib.hid (H.out.snoc (x := ⟨d, ⟨#[]⟩, sp, nm, []⟩) (below1 w (.cells #[.int .i64 d, .string ⟨#[]⟩, .string sp, .string nm, .slice none 0 0] 68)) (bareAts _ _ _) (fun _ => rfl) hB hown hgr (hat.imp id fun e => ⟨w.heap.size + 1, by simpa using e, by simp⟩))
  have E1 := Lib.hid (grown_trans_row (grown_made (w := w) (.cells #[.int .i64 d, .string ⟨#[]⟩, .string sp, .string nm, .slice none 0 0] 68) (Value.slice a n c).ownBlock) hgr)
  have T1 := Lib.hid (hat.imp id fun e => (⟨w.heap.size + 1, by simpa using e, by omega⟩ : ∃ g, (Value.slice a1 (n + 1) c1).ownBlock = some g ∧ w.heap.size ≤ g))
  have hz1 : w.heap.size + 1 ≤ w1.heap.size := by have := hgr.size; simpa using this
  clear hown hgr hat
  cases he : t.toList.isEmpty
  · go_wp2_with (at_builtin; refine wpList_append_own_at _ rfl _ _ 24 rfl B 68 i0 (.agg #[.int .i64 0, .string ByteArray.empty, .string ByteArray.empty, .string ByteArray.empty, .slice none 0 0]) 5 80 Tryz.underlying24 hi hz0 hi1 hz2 rfl (by decide) _ (n + 1) _ rfl (G1.out.row.alloc _) ⟨w1.heap.size, 0, none⟩ 1 1 [.int .i64 (d + 1), .string t, .string ⟨#[]⟩, .string ⟨#[]⟩, .slice none 0 0] rfl rfl ?c1 ?c2 ?c3 ?c4 ?c5 ?_)
    case c1 => exact fun j u hj => itemCells w1 _ _ _ _ _ j u hj
    case c2 => intro v hv; simp at hv; rcases hv with rfl | rfl | rfl | rfl | rfl <;> rfl
    case c3 => unfold maxLen; omega
    case c4 => omega
    case c5 => simp; omega
    intro v' w2 hown hgr _ hat
    obtain ⟨a2, c2, rfl⟩ := owns_slice hown
    have G2 := Lib.hid (G1.out.snoc (x := ⟨d + 1, t, ⟨#[]⟩, ⟨#[]⟩, []⟩) (below1 w1 (.cells #[.int .i64 (d + 1), .string t, .string ⟨#[]⟩, .string ⟨#[]⟩, .slice none 0 0] 68)) (bareAts _ _ _) (fun _ => rfl) (by omega) hown hgr (hat.imp id fun e => ⟨w1.heap.size + 1, by simpa using e, by simp⟩))
    have E2 : Hid (w.grownBy w2 (Value.slice a n c).ownBlock) := Lib.hid (by
      have hg2 := grown_trans_row (grown_made (w := w1) (.cells #[.int .i64 (d + 1), .string t, .string ⟨#[]⟩, .string ⟨#[]⟩, .slice none 0 0] 68) (Value.slice a1 (n + 1) c1).ownBlock) hgr
      rcases T1.out with e | ⟨g, e, hg⟩
      · rw [e] at hg2
        exact grown_trans_row E1.out hg2
      · rw [e] at hg2
        exact grown_in E1.out hg2 hg)
    have T2 : Hid ((Value.slice a2 (n + 1 + 1) c2).ownBlock = (Value.slice a n c).ownBlock ∨ ∃ g, (Value.slice a2 (n + 1 + 1) c2).ownBlock = some g ∧ w.heap.size ≤ g) := Lib.hid (by
      rcases hat with e | e
      · rw [e]; exact T1.out
      · exact .inr ⟨w1.heap.size + 1, by simpa using e, by omega⟩)
    clear hown hgr hat
    go_wp2
    go_ret
    have G3 := G2.out
    have htl := HTL.out
    rw [if_neg (by rw [he]; simp)] at htl
    rw [← htl]
    rw [List.append_assoc] at G3
    exact ⟨_, _, _, _, _, _, rfl, G3, E2.out, T2.out⟩
  · go_wp2
    go_ret
    have htl := HTL.out
    rw [if_pos he] at htl
    rw [← htl]
    exact ⟨_, _, _, _, _, _, rfl, G1.out, E1.out, T1.out⟩
end Go.Proofs.YtpafknmfacgccaaGreatDoor
