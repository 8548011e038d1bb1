/- Contracts of the two PutPoints. -/
import Derived.Test.YtmgemchpclmknaaDoorIsChar
import Derived.Lib.RuneBytes
import Derived.Test.YtmgemchpclmknaaDoorShelf
namespace Go.Proofs.YtmgemchpclmknaaDoor
open Go.ChangeShapes Go.WideShapes Go.ChangeAt Go.RowKit
set_option linter.unusedVariables false

theorem point_of {p : Int} (h : pointB p = true) : (0 ≤ p ∧ p ≤ 1114111) ∧ ¬ (55296 ≤ p ∧ p ≤ 57343) := by
  simp [pointB, inB] at h
  omega

set_option maxHeartbeats 1600000 in
theorem l1Put_any (p : Int) (hp : pointB p = true) (w : World) :
    Calls Tryd.prog 61 #[.int .i64 p] w (OwnsRes w 5 .u8 (Lib.encodeRuneZ p)) := by
  obtain ⟨⟨h0, h1⟩, h2⟩ := point_of hp
  clear hp
  by_cases c1 : p < 128
  · go_enter Tryd.func61, Tryd.ntmps61
    go_wp2
    go_ret
    refine ⟨_, 1, _, rfl, ?_, below1 _ _⟩
    rw [Lib.encodeRuneZ_one h0 (by omega)]
    exact lit_owns w _ .u8 [p] 1 rfl (by decide)
  · by_cases c2 : p < 2048
    · have q1 : p / 64 < 32 := by omega
      have q2 : 0 ≤ p / 64 := by omega
      go_enter Tryd.func61, Tryd.ntmps61
      go_wp2
      go_ret
      refine ⟨_, 2, _, rfl, ?_, below1 _ _⟩
      rw [Lib.encodeRuneZ_two (by omega) (by omega)]
      exact lit_owns w _ .u8 [192 + p / 64, 128 + p % 64] 2 rfl (by decide)
    · by_cases c3 : p < 65536
      · have q1 : p / 4096 < 16 := by omega
        have q2 : 0 ≤ p / 4096 := by omega
        have q3 : 0 ≤ p / 64 := by omega
        go_enter Tryd.func61, Tryd.ntmps61
        go_wp2
        go_ret
        refine ⟨_, 3, _, rfl, ?_, below1 _ _⟩
        rw [Lib.encodeRuneZ_three (by omega)]
        exact lit_owns w _ .u8 [224 + p / 4096, 128 + p / 64 % 64, 128 + p % 64] 3 rfl (by decide)
      · have q1 : p / 262144 < 8 := by omega
        have q2 : 0 ≤ p / 262144 := by omega
        have q3 : 0 ≤ p / 64 := by omega
        have q4 : 0 ≤ p / 4096 := by omega
        go_enter Tryd.func61, Tryd.ntmps61
        go_wp2
        go_ret
        refine ⟨_, 4, _, rfl, ?_, below1 _ _⟩
        rw [Lib.encodeRuneZ_four (by omega) (by omega)]
        exact lit_owns w _ .u8 [240 + p / 262144, 128 + p / 4096 % 64, 128 + p / 64 % 64, 128 + p % 64] 4 rfl (by decide)

/-- what PutPoint answers: the code, the bytes -/
def putCode (p : Int) : Int := if pointB p then 0 else 3
def putList (p : Int) : List Int := if pointB p then Lib.encodeRuneZ p else []

set_option maxHeartbeats 800000 in
theorem specPutPoint_any (p : Int) (w : World) :
    Calls Tryd.prog 19 #[.int .i64 p] w (OwnsRes2 w 5 .u8 (putCode p) (putList p)) := by
  cases hq : pointB p
  · have e1 : putCode p = 3 := by simp [putCode, hq]
    have e2 : putList p = [] := by simp [putList, hq]
    rw [e1, e2]
    clear e1 e2
    go_enter Tryd.func19, Tryd.ntmps19
    go_wp2_with (go_at_call 60; refine (l1Point_any _ _).mono ?_; rintro e w' ⟨rfl, rfl⟩)
    exact bodyPost_ret (v := .agg #[.int .i64 3, .slice none 0 0]) (by simp [results, Tryd.results19, go_sem]) rfl ⟨none, 0, 0, rfl, World.ownsRow_nil _ _ _ _, below1 _ _⟩
  · have e1 : putCode p = 0 := by simp [putCode, hq]
    have e2 : putList p = Lib.encodeRuneZ p := by simp [putList, hq]
    rw [e1, e2]
    clear e1 e2
    go_enter Tryd.func19, Tryd.ntmps19
    go_wp2_with fail
    refine (l1Point_any _ _).mono ?_
    rintro e w' ⟨rfl, rfl⟩
    go_wp2_with fail
    refine (l1Put_any p hq _).mono ?_
    rintro e w1 ⟨a, n, c, rfl, ho, hb⟩
    obtain ⟨hc, hf⟩ := bcell hb
    have HO := Lib.hid ho
    have hz := hb.size
    simp at hz
    clear ho
    go_wp2
    exact bodyPost_ret (v := .agg #[.int .i64 0, .slice a n c]) (by simp [results, Tryd.results19, go_sem, hc]) rfl
      ⟨a, n, c, rfl, owns_mono (owns_set_below (owns_set_below HO.out _ (by simp) _) _ (by simp) _) (by simp), (((below1 w _).trans (hb.mono (by simp))).setCell (by simp) _).setCell (by simp) _⟩

theorem byteInfo : (Tryd.prog.info? 5).map (fun i => (i.zero, i.size, i.bytes)) = some (some (.int .u8 0), 1, 1) := by kernel_rfl

set_option maxHeartbeats 800000 in
theorem implPutPoint_any (p : Int) (w : World) :
    Calls Tryd.prog 12 #[.int .i64 p] w (OwnsRes2 w 5 .u8 (putCode p) (putList p)) := by
  cases hq : pointB p
  · have e1 : putCode p = 3 := by simp [putCode, hq]
    have e2 : putList p = [] := by simp [putList, hq]
    rw [e1, e2]
    clear e1 e2
    go_enter Tryd.func12, Tryd.ntmps12
    go_wp2_with fail
    refine (isPoint_any _ _).mono ?_
    rintro e w1 ⟨rfl, hb⟩
    obtain ⟨hc, hf⟩ := bcell hb
    have hz := hb.size
    simp at hz
    go_wp2
    exact bodyPost_ret (v := .agg #[.int .i64 3, .slice none 0 0]) (by simp [results, Tryd.results12, go_sem, hc]) rfl
      ⟨none, 0, 0, rfl, World.ownsRow_nil _ _ _ _, (((below1 w _).trans (hb.mono (by simp))).setCell (by simp) _).setCell (by simp) _⟩
  · have e1 : putCode p = 0 := by simp [putCode, hq]
    have e2 : putList p = Lib.encodeRuneZ p := by simp [putList, hq]
    rw [e1, e2]
    clear e1 e2
    obtain ⟨⟨h0, h1⟩, h2⟩ := point_of hq
    go_enter Tryd.func12, Tryd.ntmps12
    go_wp2_with fail
    refine (isPoint_any _ _).mono ?_
    rintro e w1 ⟨rfl, hb⟩
    obtain ⟨hc, hf⟩ := bcell hb
    have hz := hb.size
    simp at hz
    go_wp2_with fail
    refine (Tryd.utf8_AppendRune_plain w1.heap.size (.slice none 0 0) 0 [] p (by omega) (by omega) _ (World.ownsRow_nil _ _ _ _) (by decide) (Nat.le_refl _)).mono ?_
    rintro e w2 ⟨v, rfl, ho, o, hg⟩
    obtain ⟨a, c, rfl⟩ := owns_slice ho
    have hb2 := below_then hb (below_of_grown hg)
    have hz2 := hb2.size
    simp at hz2
    clear hc hf
    obtain ⟨hc, hf⟩ := bcell hb2
    have HO := Lib.hid ho
    have HZ := Lib.hid hz
    clear ho hg hz
    generalize 0 + (Lib.runeCells p).length = n at HO
    go_wp2
    exact bodyPost_ret (v := .agg #[.int .i64 0, .slice a n c]) (by simp [results, Tryd.results12, go_sem, hc]) rfl
      ⟨a, n, c, rfl, owns_mono (owns_set_below (owns_set_below HO.out _ (by have := HZ.out; simp; omega) _) _ (by have := HZ.out; simp; omega) _) (by have := HZ.out; omega), (((below1 w _).trans (hb2.mono (by simp))).setCell (by simp) _).setCell (by simp) _⟩
end Go.Proofs.YtmgemchpclmknaaDoor
