/- The draws of FnTexts. -/
import Derived.Test.YticpebpicdboaaaDoorDrawB64
namespace Go.Proofs.YticpebpicdboaaaDoor
open Go.ChangeShapes Go.WideShapes Go.ChangeAt Go.RowKit
set_option linter.unusedVariables false

theorem words_grown {w w2 : World} {arr : Array Value} {e : TypeId} {b : Nat} (hg : (w.alloc (.cells arr e)).grownBy w2 (some b)) (hb : b < w.heap.size) (m k : Nat) (hall : (List.range k).all (fun r => isWord m arr[r]?) = true) :
    ∀ r, r < k → ∃ s : ByteArray, w2.cell? ⟨w.heap.size, r, none⟩ = some (.string s) ∧ s.size ≤ m := by
  intro r hr
  obtain ⟨s, hs, hm⟩ := words_of (Below.refl (w.alloc (.cells arr e)).heap.size (w.alloc (.cells arr e))) m k hall r hr
  exact ⟨s, hg.cell hs (by simp; omega), hm⟩
def szOf : Value → Nat
  | .string t => t.size
  | _ => 0
/-- a line is drawn -/
def LineDrawn (w : World) (b : Nat) (a : Option Addr) (n c : Nat) (xs : List Int) (k m : Nat) (en : Ending) (w' : World) : Prop :=
  ∃ t : ByteArray, en = .returned (.string t) ∧ t.size ≤ m ∧ Src w' b a n c xs (k + 1) ∧ w.grownBy w' (some b)
set_option maxRecDepth 100000 in
set_option maxHeartbeats 1600000 in
theorem l11DrawLine_any (b : Nat) (a : Option Addr) (n c : Nat) (xs : List Int) (k : Nat) (hk : k < 1000000) (w : World) (h : Src w b a n c xs k) :
    Calls Tryd.prog 24 #[.pointer (some ⟨b, 0, none⟩)] w (LineDrawn w b a n c xs k 100) := by
  have hlt := h.lt
  have HS := Lib.hid h
  clear h
  unfold LineDrawn
  go_enter Tryd.func24, Tryd.ntmps24
  go_wp2_with fail
  refine (l1Next_any b a n c xs k 34 (by decide) (by decide) hk _ (HS.out.alloc _)).mono ?_
  rintro e w2 ⟨r, rfl, hr, hs2, hg⟩
  have hr1 := hr (by decide)
  obtain ⟨s, hs, hsz⟩ := words_grown hg hlt 100 34 (by decide +kernel) r (by omega)
  have HS2 := Lib.hid hs2
  have HG := Lib.hid (grown_trans_row (World.grownBy_alloc _ _ (some b)) hg)
  have HZ := Lib.hid hsz
  clear hr hg hs2 hsz
  go_wp2
  go_ret
  exact ⟨s, rfl, HZ.out, HS2.out, HG.out⟩
set_option maxRecDepth 100000 in
set_option maxHeartbeats 3200000 in
theorem drawWordsOf_any (a : Option Addr) (n c : Nat) (xs : List Int) (w : World) (h : CodeAt w a n c xs) :
    Calls Tryd.prog 10 #[.slice a n c] w (TopText w 3001) := by
  have HC := Lib.hid h
  clear h
  unfold TopText
  have HM2 : Hid (∀ z ∈ [(3000 : Int), 3001], 0 ≤ z ∧ z ≤ 3001) := Lib.hid (fun z hz => by simp at hz; omega)
  go_enter Tryd.func10, Tryd.ntmps10
  go_wp2_with fail
  refine (source_any HC.out).mono ?_
  rintro e w1 ⟨rfl, hs, hb⟩
  have HS := Lib.hid hs
  have HB := Lib.hid hb
  clear hs hb
  go_wp2_with fail
  refine (l11DrawLine_any _ a n c xs 0 (by decide) _ HS.out).mono ?_
  rintro e w2 ⟨t, rfl, ht, hs2, hg2⟩
  have HS2 := Lib.hid hs2
  have HB2 := Lib.hid (below_step HB.out hg2 (Nat.le_refl _))
  clear hs2 hg2
  have htm : ¬ 9223372036854775807 < (⟨#[32]⟩ : ByteArray).size + t.size := by
    have : (⟨#[32]⟩ : ByteArray).size = 1 := rfl
    omega
  have hts : ((⟨#[32]⟩ : ByteArray) ++ t).size ≤ 101 := by
    rw [ByteArray.size_append]
    have : (⟨#[32]⟩ : ByteArray).size = 1 := rfl
    omega
  go_wp2_with fail
  refine (l1Chance_any _ a n c xs 1 25 (by decide) (by decide) (by decide) _ HS2.out).mono ?_
  rintro e w3 ⟨⟨tt, rfl⟩, hs3, hg3⟩
  have HS3 := Lib.hid hs3
  have HB3 := Lib.hid (below_step HB2.out hg3 (Nat.le_refl _))
  clear hs3 hg3
  generalize (⟨#[32]⟩ : ByteArray) ++ t = t0 at *
  clear htm ht
  cases tt
  · go_wp2
    go_ret
    exact ⟨t0, rfl, by omega, HB3.out⟩
  · go_wp2
    go_loopw [4] (fun v wr => ∃ (t : ByteArray) (k : Nat), v = .string t ∧ t.size ≤ 3001 ∧ k ≤ t.size + 2 ∧ Src wr w.heap.size a n c xs k ∧ Below w.heap.size w wr) (fun v _ => 3001 - szOf v)
    case atStart => exact ⟨t0, 2, rfl, by omega, by omega, HS3.out, HB3.out⟩
    case round =>
      obtain ⟨t, k, rfl, ht2, hk, hs, hb⟩ := hrel
      have hlt := hs.lt
      have HS := Lib.hid hs
      have HBR := Lib.hid hb
      clear hs hb
      go_wp2_with fail
      refine (l1Pick_any w.heap.size a n c xs k wr.heap.size 2 _ rfl (by decide) (by decide) (by omega) _ (HS.out.alloc _) (lit_row wr _ .i64 [3000, 3001] 2 rfl (by decide)) (by omega)).mono ?_
      rintro e w4 ⟨z, rfl, hz, hs4, hg4⟩
      obtain ⟨z0, z1⟩ := HM2.out z hz
      have HS4 := Lib.hid hs4
      have HB4 := Lib.hid (below_step (HBR.out.alloc HBR.out.size _) hg4 (Nat.le_refl _))
      clear hs4 hg4 hz
      by_cases hc : (t.size : Int) < z
      · have h1 : (⟨#[32]⟩ : ByteArray).size = 1 := rfl
        have htm : ¬ 9223372036854775807 < t.size + (⟨#[32]⟩ : ByteArray).size := by omega
        have hsz : (t ++ (⟨#[32]⟩ : ByteArray)).size = t.size + 1 := by rw [ByteArray.size_append]; omega
        have HZ := Lib.hid hsz
        clear hsz
        go_wp2
        go_roundw
        case rel => exact ⟨_, k + 1, rfl, by rw [HZ.out]; omega, by rw [HZ.out]; omega, HS4.out, HB4.out⟩
        case measure => have := HZ.out; simp only [szOf]; omega
      · go_wp2
        go_ret
        exact ⟨t, rfl, ht2, HB4.out⟩
set_option maxRecDepth 100000 in
set_option maxHeartbeats 1600000 in
theorem drawRestOf_any (a : Option Addr) (n c : Nat) (xs : List Int) (w : World) (h : CodeAt w a n c xs) :
    Calls Tryd.prog 8 #[.slice a n c] w (TopText w 3001) := by
  have HC := Lib.hid h
  clear h
  unfold TopText
  go_enter Tryd.func8, Tryd.ntmps8
  go_wp2_with fail
  refine (source_any HC.out).mono ?_
  rintro e w1 ⟨rfl, hs, hb⟩
  have hlt := hs.lt
  have HS := Lib.hid hs
  have HB := Lib.hid hb
  clear hs hb
  go_wp2_with fail
  refine (l1Chance_any _ a n c xs 0 3 (by decide) (by decide) (by decide) _ (HS.out.alloc _)).mono ?_
  rintro e w2 ⟨⟨tt, rfl⟩, hs2, hg2⟩
  have HW := Lib.hid (words_grown hg2 hlt 100 8 (by decide +kernel))
  have HS2 := Lib.hid hs2
  have HB2 := Lib.hid (below_step (HB.out.alloc HB.out.size _) hg2 (Nat.le_refl _))
  have hlt2 := hs2.lt
  clear hs2 hg2
  cases tt
  · go_wp2_with fail
    refine (l1Next_any _ a n c xs 1 8 (by decide) (by decide) (by decide) _ HS2.out).mono ?_
    rintro e w3 ⟨r, rfl, hr, hs3, hg⟩
    have hr1 := hr (by decide)
    obtain ⟨s, hs, hsz⟩ := HW.out r (by omega)
    have hc : w3.cell? ⟨w1.heap.size, r, none⟩ = some (.string s) := hg.cell hs (by simp; omega)
    have HG := Lib.hid (below_step HB2.out hg (Nat.le_refl _))
    have HZ := Lib.hid hsz
    clear hr hg hs3 hs hsz
    go_wp2
    go_ret
    exact ⟨s, rfl, by have := HZ.out; omega, HG.out⟩
  · go_wp2_with fail
    refine (drawWordsOf_any a n c xs _ (HC.out.below HB2.out)).mono ?_
    rintro e w3 ⟨s, rfl, hsz, hb3⟩
    have HB3 := Lib.hid (below_then HB2.out hb3)
    clear hb3
    go_wp2
    go_ret
    exact ⟨s, rfl, hsz, HB3.out⟩
end Go.Proofs.YticpebpicdboaaaDoor
