/- Contracts of the two ReadStrings; eqStringResult. -/
import Derived.Test.YtmgemchpclmknaaDoorReadString
import Derived.Test.YtmgemchpclmknaaDoorToByte
import Derived.Test.YtmgemchpclmknaaDoorBytes
namespace Go.Proofs.YtmgemchpclmknaaDoor
open Go.ChangeShapes Go.WideShapes Go.ChangeAt Go.RowKit
set_option linter.unusedVariables false

theorem row_some {w : World} {a : Option Addr} {n c : Nat} {xs : List Int} (h : Row w .u8 (.slice a n c) xs) (hk : vreadOk xs = true) : ∃ b o, a = some ⟨b, o, none⟩ := by
  rcases h with ⟨hv, h0⟩ | ⟨b, o, cap, hv, _⟩
  · subst h0
    exact absurd hk (by decide)
  · simp only [Value.slice.injEq] at hv
    exact ⟨b, o, hv.1⟩
theorem stringAhead_any (a : Option Addr) (n c : Nat) (xs : List Int) (w : World) (sa : Addr) (hs : Sent w sa) (hT : Tabs w) (hn : n = xs.length) (h : Row w .u8 (.slice a n c) xs) (hby : ∀ i, 0 ≤ xs.getD i 0 ∧ xs.getD i 0 ≤ 255) :
    Calls Tryd.prog 78 #[.slice a n c] w (AheadStr xs sa w) := by
  cases hk : vreadOk xs
  · exact stringAhead_bad a n c xs w sa hs hn h hby hk
  · obtain ⟨b, o, rfl⟩ := row_some h hk
    exact stringAhead_ok b o n c xs w sa hs hT hn h hby hk
theorem l2Text_any (a : Option Addr) (n c : Nat) (xs : List Int) (w : World) (hn : n = xs.length) (h : Row w .u8 (.slice a n c) xs) (hby : ∀ i, 0 ≤ xs.getD i 0 ∧ xs.getD i 0 ≤ 255) :
    Calls Tryd.prog 80 #[.slice a n c] w (TextRes xs w) := by
  cases hk : vreadOk xs
  · exact l2Text_bad a n c xs w hn h hby hk
  · obtain ⟨b, o, rfl⟩ := row_some h hk
    exact l2Text_ok b o n c xs w hn h hby hk

/-- a struct of a code, a text and a number is handed back -/
def ResS (w : World) (x : Int) (s : ByteArray) (z : Int) (e : Ending) (w' : World) : Prop :=
  e = .returned (.agg #[.int .i64 x, .string s, .int .i64 z]) ∧ Below w.heap.size w w'
def scode (xs : List Int) : Int := if sOk xs then 0 else 5
theorem ssz_pos {xs : List Int} (h : sOk xs = true) : 1 ≤ ssz xs := by
  have hk : vreadOk xs = true := by unfold sOk at h; simp at h; exact h.1
  have h1 : 1 ≤ vreadK xs := by unfold vreadK; rw [hk]; simp
  have h0 := (vreadN_bd xs).1
  rw [(s_some h).2]
  omega

set_option maxHeartbeats 800000 in
theorem specReadString_any (a : Option Addr) (n c : Nat) (xs : List Int) (w : World) (hn : n = xs.length) (h : Row w .u8 (.slice a n c) xs) (hby : ∀ i, 0 ≤ xs.getD i 0 ∧ xs.getD i 0 ≤ 255) :
    Calls Tryd.prog 39 #[.slice a n c] w (ResS w (scode xs) (stxt xs) (ssz xs)) := by
  have K := Lib.hid (fun (W : World) (hW : Below w.heap.size w W) => l2Text_any a n c xs W hn (h.below hW) hby)
  unfold TextRes at K
  clear hn h hby
  cases hk : sOk xs
  · obtain ⟨e1, e2⟩ := s_none hk
    have e3 : scode xs = 5 := by unfold scode; rw [hk]; rfl
    rw [e1, e2] at K ⊢
    rw [e3]
    clear e1 e2 e3 hk
    go_enter Tryd.func39, Tryd.ntmps39
    go_wp2_with fail
    refine (K.out _ (below1 _ _)).mono ?_
    rintro e w1 ⟨rfl, hb⟩
    obtain ⟨hc, hf⟩ := bcell hb
    have hz := hb.size
    simp at hz
    go_wp2
    exact bodyPost_ret (v := .agg #[.int .i64 5, .string ⟨#[]⟩, .int .i64 0]) (by simp [results, Tryd.results39, go_sem, hc]) rfl
      ⟨rfl, ((((below1 w _).trans (hb.mono (by simp))).setCell (by simp) _).setCell (by simp) _).setCell (by simp) _⟩
  · have e2 := ssz_pos hk
    have e3 : scode xs = 0 := by unfold scode; rw [hk]; rfl
    rw [e3]
    have hp : ((ssz xs : Int) == 0) = false := by rw [beq_eq_false_iff_ne]; omega
    generalize ssz xs = k at *
    generalize stxt xs = v at *
    clear e2 e3 hk
    go_enter Tryd.func39, Tryd.ntmps39
    go_wp2_with fail
    refine (K.out _ (below1 _ _)).mono ?_
    rintro e w1 ⟨rfl, hb⟩
    obtain ⟨hc, hf⟩ := bcell hb
    have hz := hb.size
    simp at hz
    go_wp2
    exact bodyPost_ret (v := .agg #[.int .i64 0, .string v, .int .i64 k]) (by simp [results, Tryd.results39, go_sem, hc]) rfl
      ⟨rfl, ((((below1 w _).trans (hb.mono (by simp))).setCell (by simp) _).setCell (by simp) _).setCell (by simp) _⟩

set_option maxHeartbeats 800000 in
theorem implReadString_any (a : Option Addr) (n c : Nat) (xs : List Int) (w : World) (sa : Addr) (hs : Sent w sa) (hT : Tabs w) (hn : n = xs.length) (h : Row w .u8 (.slice a n c) xs) (hby : ∀ i, 0 ≤ xs.getD i 0 ∧ xs.getD i 0 ≤ 255) :
    Calls Tryd.prog 35 #[.slice a n c] w (ResS w (scode xs) (stxt xs) (ssz xs)) := by
  have K := Lib.hid (fun (W : World) (hW : Below w.heap.size w W) => stringAhead_any a n c xs W sa (hs.kept hW) (tabs_kept hT hW) hn (h.below hW) hby)
  have HS := Lib.hid hs
  unfold AheadStr errOf at K
  clear hn h hby hs hT
  cases hk : sOk xs
  · have e3 : scode xs = 5 := by unfold scode; rw [hk]; rfl
    rw [e3]
    rw [hk] at K
    simp only [Bool.false_eq_true, if_false] at K
    generalize ssz xs = k at *
    generalize stxt xs = v at *
    clear e3 hk
    go_enter Tryd.func35, Tryd.ntmps35
    go_wp2_with fail
    refine (K.out _ (below1 _ _)).mono ?_
    rintro e w1 ⟨rfl, hb⟩
    have KR := Lib.hid (readCode_err sa w1 ((HS.out.alloc _).kept hb))
    obtain ⟨hc, hf⟩ := bcell hb
    have hz := hb.size
    simp at hz
    go_wp2_with fail
    refine KR.out.mono ?_
    rintro e w' ⟨rfl, rfl⟩
    go_wp2
    exact bodyPost_ret (v := .agg #[.int .i64 5, .string v, .int .i64 k]) (by simp [results, Tryd.results35, go_sem, hc]) rfl
      ⟨rfl, ((((below1 w _).trans (hb.mono (by simp))).setCell (by simp) _).setCell (by simp) _).setCell (by simp) _⟩
  · have e3 : scode xs = 0 := by unfold scode; rw [hk]; rfl
    rw [e3]
    rw [hk] at K
    simp only [if_true] at K
    generalize ssz xs = k at *
    generalize stxt xs = v at *
    clear e3 hk
    go_enter Tryd.func35, Tryd.ntmps35
    go_wp2_with fail
    refine (K.out _ (below1 _ _)).mono ?_
    rintro e w1 ⟨rfl, hb⟩
    have KR := Lib.hid (readCode_nil sa w1 ((HS.out.alloc _).kept hb))
    obtain ⟨hc, hf⟩ := bcell hb
    have hz := hb.size
    simp at hz
    go_wp2_with fail
    refine KR.out.mono ?_
    rintro e w' ⟨rfl, rfl⟩
    go_wp2
    exact bodyPost_ret (v := .agg #[.int .i64 0, .string v, .int .i64 k]) (by simp [results, Tryd.results35, go_sem, hc]) rfl
      ⟨rfl, ((((below1 w _).trans (hb.mono (by simp))).setCell (by simp) _).setCell (by simp) _).setCell (by simp) _⟩

theorem eqStringTrue (x z : Int) (s : ByteArray) (w : World) :
    Calls Tryd.prog 50 #[.agg #[.int .i64 x, .string s, .int .i64 z], .agg #[.int .i64 x, .string s, .int .i64 z]] w fun e w' => e = .returned (.bool true) ∧ Below w.heap.size w w' := by
  go_enter Tryd.func50, Tryd.ntmps50
  go_wp2
  go_ret
  exact ⟨rfl, below2 _ _ _⟩
end Go.Proofs.YtmgemchpclmknaaDoor
