/- Some bytes are drawn. -/
import Derived.Test.YticpebpicdboaaaDoorDrawTop
import Derived.Test.YticpebpicdboaaaDoorDrawChance
import Derived.Test.YticpebpicdboaaaDoorSomeB
namespace Go.Proofs.YticpebpicdboaaaDoor
open Go.ChangeShapes Go.WideShapes Go.ChangeAt Go.RowKit
set_option linter.unusedVariables false

/-- some bytes are drawn of the code, into a new row of no more than m -/
def TopRow (w : World) (m : Nat) (en : Ending) (w' : World) : Prop :=
  ∃ (g n c : Nat) (ys : List Int), en = .returned (.slice (some ⟨g, 0, none⟩) n c) ∧ w'.ownsRow w.heap.size 5 1 (.slice (some ⟨g, 0, none⟩) n c) n (ys.map (Value.int .u8)) ∧ n ≤ m ∧ (∀ y ∈ ys, 0 ≤ y ∧ y ≤ 255) ∧ Below w.heap.size w w'

set_option maxRecDepth 100000 in
set_option maxHeartbeats 3200000 in
theorem drawBase64Of_any (a : Option Addr) (n c : Nat) (xs : List Int) (w : World) (h : CodeAt w a n c xs) :
    Calls Tryd.prog 16 #[.slice a n c] w (TopRow w 3001) := by
  have HC := Lib.hid h
  clear h
  unfold TopRow
  have HM : Hid (∀ z ∈ [(0 : Int), 1, 2, 3, 4, 20], 0 ≤ z ∧ z ≤ 3001) := Lib.hid (fun z hz => by simp at hz; omega)
  have HM2 : Hid (∀ z ∈ [(3000 : Int), 3001], 0 ≤ z ∧ z ≤ 3001) := Lib.hid (fun z hz => by simp at hz; omega)
  go_enter Tryd.func16, Tryd.ntmps16
  go_wp2_with fail
  refine (source_any HC.out).mono ?_
  rintro e w1 ⟨rfl, hs, hb⟩
  have hz := hs.lt
  have HS := Lib.hid hs
  have HB := Lib.hid hb
  clear hs hb
  go_wp2_with fail
  refine (l1Pick_any w.heap.size a n c xs 0 w1.heap.size 6 _ rfl (by decide) (by decide) (by decide) _ (HS.out.alloc _) (lit_row w1 _ .i64 [0, 1, 2, 3, 4, 20] 6 rfl (by decide)) (by omega)).mono ?_
  rintro e w2 ⟨r, rfl, hr, hs2, hg2⟩
  have HR := Lib.hid (HM.out r hr)
  have HS2 := Lib.hid hs2
  have HB2 := Lib.hid (below_step (HB.out.alloc HB.out.size _) hg2 (Nat.le_refl _))
  have hz2 := hs2.lt
  clear hr hs2 hg2
  go_wp2_with fail
  refine (l1Chance_any _ a n c xs 1 40 (by decide) (by decide) (by decide) _ HS2.out).mono ?_
  rintro e w3 ⟨⟨tt, rfl⟩, hs3, hg3⟩
  have hz3 := hs3.lt
  have HS3 := Lib.hid hs3
  have HB3 := Lib.hid (below_step HB2.out hg3 (Nat.le_refl _))
  clear hs3 hg3
  cases tt
  · obtain ⟨r0, r1⟩ := HR.out
    obtain ⟨N, rfl⟩ := Int.eq_ofNat_of_zero_le r0
    clear r0
    go_wp2_with fail
    refine (l1SomeB_any _ a n c xs 2 N (by omega) (by omega) _ HS3.out).mono ?_
    rintro e w4 ⟨g, c', ys, rfl, ho, _, hg4, hy⟩
    have HO := Lib.hid (owns_mono ho HB3.out.size)
    have HB4 := Lib.hid (below_step HB3.out hg4 (Nat.le_refl _))
    have HY := Lib.hid hy
    clear ho hg4 hy
    go_wp2
    go_ret
    exact ⟨g, N, c', ys, rfl, HO.out, by omega, HY.out, HB4.out⟩
  · go_wp2_with fail
    refine (l1Pick_any w.heap.size a n c xs 2 w3.heap.size 2 _ rfl (by decide) (by decide) (by decide) _ (HS3.out.alloc _) (lit_row w3 _ .i64 [3000, 3001] 2 rfl (by decide)) (by omega)).mono ?_
    rintro e w4 ⟨q, rfl, hq, hs4, hg4⟩
    obtain ⟨r0, r1⟩ := HM2.out q hq
    obtain ⟨N, rfl⟩ := Int.eq_ofNat_of_zero_le r0
    have HS4 := Lib.hid hs4
    have HB4 := Lib.hid (below_step (HB3.out.alloc HB3.out.size _) hg4 (Nat.le_refl _))
    clear r0 hq hs4 hg4
    go_wp2_with fail
    refine (l1SomeB_any _ a n c xs 3 N (by omega) (by omega) _ HS4.out).mono ?_
    rintro e w5 ⟨g, c', ys, rfl, ho, _, hg5, hy⟩
    have HO := Lib.hid (owns_mono ho HB4.out.size)
    have HB5 := Lib.hid (below_step HB4.out hg5 (Nat.le_refl _))
    have HY := Lib.hid hy
    clear ho hg5 hy
    go_wp2
    go_ret
    exact ⟨g, N, c', ys, rfl, HO.out, by omega, HY.out, HB5.out⟩
end Go.Proofs.YticpebpicdboaaaDoor
