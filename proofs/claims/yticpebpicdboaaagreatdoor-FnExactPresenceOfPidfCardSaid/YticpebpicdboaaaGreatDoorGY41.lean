/- The words of kinds and shows: the program's wordAt, KindWord, ShowWord. -/
import Derived.Test.YticpebpicdboaaaGreatDoorGY15
import Derived.Test.YticpebpicdboaaaGreatDoorGY37
namespace Go.Proofs.YticpebpicdboaaaGreatDoor
open Go.ChangeShapes Go.WideShapes Go.ChangeAt Go.RowKit
set_option linter.unusedVariables false

theorem wordAt_in (b n cap k : Nat) (t : ByteArray) (w : World) (hk : k < n) (hm : n ≤ 100) (hc : w.cell? ⟨b, k, none⟩ = some (.string t)) :
    Calls Tryz.prog 83 #[.slice (some ⟨b, 0, none⟩) n cap, .int .i64 k] w (TxtRes w 0 t) := by
  have h1 : 0 ≤ (k : Int) := by omega
  have h2 : (k : Int) < (n : Int) := by omega
  have hb : b < w.heap.size := World.block_lt_of_cell? w _ hc
  go_enter Tryz.func83, Tryz.ntmps83
  go_wp2
  exact bodyPost_ret (v := .agg #[.int .i64 0, .string t]) (by simp [results, Tryz.results83, go_sem]) rfl ⟨rfl, below1 w _⟩
theorem wordAt_out (b n cap : Nat) (k : Int) (w : World) (hk : k < 0 ∨ (n : Int) ≤ k) (hm : n ≤ 100) :
    Calls Tryz.prog 83 #[.slice (some ⟨b, 0, none⟩) n cap, .int .i64 k] w (TxtRes w 3 ByteArray.empty) := by
  rcases hk with h | h
  · go_enter Tryz.func83, Tryz.ntmps83
    go_wp2
    exact bodyPost_ret (v := .agg #[.int .i64 3, .string _]) (by simp [results, Tryz.results83, go_sem]; rfl) rfl ⟨rfl, below1 w _⟩
  · have h0 : 0 ≤ k := by omega
    go_enter Tryz.func83, Tryz.ntmps83
    go_wp2
    exact bodyPost_ret (v := .agg #[.int .i64 3, .string _]) (by simp [results, Tryz.results83, go_sem]; rfl) rfl ⟨rfl, below1 w _⟩

theorem rowS_cell {w : World} {b : Nat} {n cap : Nat} {ts : List ByteArray} (h : RowS w (.slice (some ⟨b, 0, none⟩) n cap) ts) {k : Nat} (hk : k < ts.length) : w.cell? ⟨b, k, none⟩ = some (.string (ts.getD k ByteArray.empty)) := by
  rcases h with ⟨hv, _⟩ | ⟨b', o, cap', hv, _, _, _, hc⟩
  · cases hv
  · simp only [Value.slice.injEq, Option.some.injEq, Addr.mk.injEq] at hv
    obtain ⟨⟨rfl, rfl, _⟩, _, _⟩ := hv
    simpa using hc k hk

theorem kindAt_any (k : Int) (b : Nat) (W : World) (hW : RowS W (.slice (some ⟨b, 0, none⟩) 7 7) kindWs) : Calls Tryz.prog 83 #[.slice (some ⟨b, 0, none⟩) 7 7, .int .i64 k] W (TxtRes W (kindC k) (kindT k)) := by
  unfold kindC kindT
  cases h : inB k 0 6
  · have hk : k < 0 ∨ ((7 : Nat) : Int) ≤ k := by
      have : ¬ (0 ≤ k ∧ k ≤ 6) := by simpa [inB] using h
      omega
    exact wordAt_out b 7 7 k W hk (by decide)
  · have hk : 0 ≤ k ∧ k ≤ 6 := by simpa [inB] using h
    obtain ⟨m, rfl⟩ : ∃ m : Nat, k = (m : Int) := ⟨k.toNat, by omega⟩
    have hm : m < 7 := by omega
    have hc := rowS_cell hW (show m < kindWs.length from hm)
    have e : kindW (m : Int) = kindWs.getD m ByteArray.empty := rfl
    rw [if_pos rfl, if_pos rfl, e]
    exact wordAt_in b 7 7 m _ W hm (by decide) hc
set_option maxHeartbeats 800000 in
theorem implKindWord0 (k : Int) (w : World) (c : Int) (t : ByteArray) (K : Hid (∀ b W, RowS W (.slice (some ⟨b, 0, none⟩) 7 7) kindWs → Calls Tryz.prog 83 #[.slice (some ⟨b, 0, none⟩) 7 7, .int .i64 k] W (TxtRes W c t))) :
    Calls Tryz.prog 24 #[.int .i64 k] w (TxtRes w c t) := by
  unfold TxtRes at K ⊢
  go_enter Tryz.func24, Tryz.ntmps24
  go_wp2_with fail
  refine (pKinds_row _).mono ?_
  rintro e w1 ⟨rfl, hr, hb⟩
  rw [show ∀ o, (w.alloc o).heap.size = w.heap.size + 1 from fun o => by simp] at hr
  have HR := Lib.hid hr
  have B1 := Lib.hid hb
  clear hr hb
  go_wp2_with fail
  refine (K.out _ _ HR.out).mono ?_
  rintro e w2 ⟨rfl, hb2⟩
  have hb := below_then B1.out hb2
  obtain ⟨hc, hf⟩ := bcell hb
  have hz := hb.size
  simp at hz
  have HB := Lib.hid hb
  clear hb2 hb
  go_wp2
  exact bodyPost_ret (v := .agg #[.int .i64 c, .string t]) (by simp [results, Tryz.results24, go_sem, hc]) rfl ⟨rfl, (((below1 w _).trans (HB.out.mono (by simp))).setCell (by simp) _).setCell (by simp) _⟩
theorem implKindWord_any (k : Int) (w : World) : Calls Tryz.prog 24 #[.int .i64 k] w (TxtRes w (kindC k) (kindT k)) := by
  exact implKindWord0 k w (kindC k) (kindT k) (Lib.hid fun b W hW => kindAt_any k b W hW)

theorem showAt_any (k : Int) (b : Nat) (W : World) (hW : RowS W (.slice (some ⟨b, 0, none⟩) 5 5) showWs) : Calls Tryz.prog 83 #[.slice (some ⟨b, 0, none⟩) 5 5, .int .i64 k] W (TxtRes W (showC k) (showT k)) := by
  unfold showC showT
  cases h : inB k 0 4
  · have hk : k < 0 ∨ ((5 : Nat) : Int) ≤ k := by
      have : ¬ (0 ≤ k ∧ k ≤ 4) := by simpa [inB] using h
      omega
    exact wordAt_out b 5 5 k W hk (by decide)
  · have hk : 0 ≤ k ∧ k ≤ 4 := by simpa [inB] using h
    obtain ⟨m, rfl⟩ : ∃ m : Nat, k = (m : Int) := ⟨k.toNat, by omega⟩
    have hm : m < 5 := by omega
    have hc := rowS_cell hW (show m < showWs.length from hm)
    have e : showW (m : Int) = showWs.getD m ByteArray.empty := rfl
    rw [if_pos rfl, if_pos rfl, e]
    exact wordAt_in b 5 5 m _ W hm (by decide) hc
set_option maxHeartbeats 800000 in
theorem implShowWord0 (k : Int) (w : World) (c : Int) (t : ByteArray) (K : Hid (∀ b W, RowS W (.slice (some ⟨b, 0, none⟩) 5 5) showWs → Calls Tryz.prog 83 #[.slice (some ⟨b, 0, none⟩) 5 5, .int .i64 k] W (TxtRes W c t))) :
    Calls Tryz.prog 26 #[.int .i64 k] w (TxtRes w c t) := by
  unfold TxtRes at K ⊢
  go_enter Tryz.func26, Tryz.ntmps26
  go_wp2_with fail
  refine (pShows_row _).mono ?_
  rintro e w1 ⟨rfl, hr, hb⟩
  rw [show ∀ o, (w.alloc o).heap.size = w.heap.size + 1 from fun o => by simp] at hr
  have HR := Lib.hid hr
  have B1 := Lib.hid hb
  clear hr hb
  go_wp2_with fail
  refine (K.out _ _ HR.out).mono ?_
  rintro e w2 ⟨rfl, hb2⟩
  have hb := below_then B1.out hb2
  obtain ⟨hc, hf⟩ := bcell hb
  have hz := hb.size
  simp at hz
  have HB := Lib.hid hb
  clear hb2 hb
  go_wp2
  exact bodyPost_ret (v := .agg #[.int .i64 c, .string t]) (by simp [results, Tryz.results26, go_sem, hc]) rfl ⟨rfl, (((below1 w _).trans (HB.out.mono (by simp))).setCell (by simp) _).setCell (by simp) _⟩
theorem implShowWord_any (k : Int) (w : World) : Calls Tryz.prog 26 #[.int .i64 k] w (TxtRes w (showC k) (showT k)) := by
  exact implShowWord0 k w (showC k) (showT k) (Lib.hid fun b W hW => showAt_any k b W hW)
end Go.Proofs.YticpebpicdboaaaGreatDoor
