/- The model's Sha1Of. -/
import Derived.Test.YtlhflkpbccbofaaShaS
namespace Go.Proofs.Ytlhflkpbccbofaa
open Go.ChangeShapes Go.WideShapes Go.ChangeAt Go.RowKit
set_option linter.unusedVariables false

set_option maxHeartbeats 800000 in
theorem specSha1Of_any (a : Option Addr) (n c : Nat) (xs : List Int) (w : World) (hm : n ≤ 1048576) (hnil : a = none → c = 0) (h : InRow w a n c xs) :
    Calls Try.prog 12 #[.slice a n c] w (OwnsRes2 w 5 .u8 (shaCode xs) (shaBytes xs)) := by
  have hl := h.len
  unfold shaCode shaBytes
  rw [hl]
  unfold OwnsRes2
  by_cases h3 : 3000 < n
  · rw [if_pos h3, if_pos h3]
    clear hl h hnil
    go_enter Try.func12, Try.ntmps12
    go_wp2
    exact bodyPost_ret (v := .agg #[.int .i64 2, .slice none 0 0]) (by simp [results, Try.results12, go_sem]) rfl
      ⟨none, 0, 0, rfl, World.ownsRow_nil _ _ _ _, below1 w _⟩
  · rw [if_neg h3, if_neg h3]
    have K := Lib.hid (fun W (hb : Below w.heap.size w W) => l9Sha_any a n c xs W (by omega) hnil (in_below h hb))
    unfold OwnsRes at K
    clear hl h hnil
    generalize shaL xs = ys at *
    go_enter Try.func12, Try.ntmps12
    go_wp2_with fail
    refine (K.out _ (below1 _ _)).mono ?_
    rintro e w1 ⟨a1, n1, c1, rfl, ho, hb⟩
    obtain ⟨hc, hf⟩ := bcell hb
    have HO := Lib.hid ho
    have HB := Lib.hid hb
    have hz := hb.size
    simp at hz
    clear hb ho
    go_wp2
    exact bodyPost_ret (v := .agg #[.int .i64 0, .slice a1 n1 c1]) (by simp [results, Try.results12, go_sem, hc]) rfl ⟨a1, n1, c1, rfl, owns_mono (owns_set_below (owns_set_below HO.out _ (by simp) _) _ (by simp) _) (by simp), (((below1 w _).trans (HB.out.mono (by simp))).setCell (by simp) _).setCell (by simp) _⟩
end Go.Proofs.Ytlhflkpbccbofaa
