/- spec.ProjectionOf. -/
import Derived.Test.YtppgdbejbhhjlaaGreatDoorGF26
import Derived.Test.YtppgdbejbhhjlaaGreatDoorGF27
import Derived.Test.YtppgdbejbhhjlaaGreatDoorGF15
namespace Go.Proofs.YtppgdbejbhhjlaaGreatDoor
open Go.ChangeShapes Go.WideShapes Go.ChangeAt Go.RowKit
set_option linter.unusedVariables false

set_option maxRecDepth 100000 in
set_option maxHeartbeats 3200000 in
theorem specProjectionOf_any (p : Pr) (a : Option Addr) (n c lo hi : Nat) (w : World) (hs : SmallPr p) (h : OwnIts w lo hi a n c p.more) :
    Calls Tryz.prog 40 #[.agg #[.int .i64 p.kind, .string p.sender, .string p.goal, .int .i64 p.shown, .string p.status, .int .i64 p.prio, .slice a n c]] w (PrrOwn w (projCode p) (projT p)) := by
  have P0 := Lib.hid ((PrAt.new w 26 p a n c).below (below1 _ (.cells #[.int .i64 0, .int .i64 0, .string ⟨#[]⟩, .string ⟨#[]⟩, .int .i64 0, .string ⟨#[]⟩, .int .i64 0, .slice none 0 0] 33)))
  have K0 := Lib.hid (fun W (hP : PrAt W w.heap.size p a n c) (hb : Below w.heap.size w W) => l8Asked_any w.heap.size p a n c W hs hP (h.its.below hb))
  have K1 := Lib.hid (fun W (hP : PrAt W w.heap.size p a n c) => l8Project_any w.heap.size p a n c W hP)
  unfold projT PrrOwn proj
  clear hs h
  by_cases hcd : projCode p = 0
  · rw [if_pos hcd, hcd]
    rw [hcd] at K0
    clear hcd
    obtain ⟨pk, pf, pt, ps, pu, pp, pm⟩ := p
    dsimp only at K0 K1 P0 ⊢
    generalize sharedS ps = ss at K1 ⊢
    generalize prioS pp = sp at K1 ⊢
    go_enter Tryz.func40, Tryz.ntmps40
    go_wp2_with fail
    refine (K0.out _ P0.out (below2 _ _ _)).mono ?_
    rintro e w1 ⟨rfl, hb⟩
    have P1 := Lib.hid (P0.out.below hb)
    have B1 := Lib.hid hb
    clear hb
    go_wp2_with fail
    refine (K1.out _ P1.out).mono ?_
    rintro e w2 ⟨rfl, hb2⟩
    have hb := below_then B1.out hb2
    obtain ⟨hc, hf⟩ := bcell hb
    have HB := Lib.hid hb
    have hz := hb.size
    simp at hz
    clear hb hb2
    go_wp2
    refine bodyPost_ret (v := .agg #[.int .i64 0, .int .i64 pk, .string pf, .string ByteArray.empty, .int .i64 ss, .string pu, .int .i64 sp, .slice none 0 0]) (by simp [results, Tryz.results40, go_sem, hc]) rfl ⟨_, _, _, rfl, OwnIts.nil _ _ _, ?_⟩
    exact (((((((((below_then (below2 w _ _) HB.out).setCell (by simp) _).setCell (by simp) _).setCell (by simp) _).setCell (by simp) _).setCell (by simp) _).setCell (by simp) _).setCell (by simp) _).setCell (by simp) _)
  · rw [if_neg hcd]
    unfold zeroPr
    generalize projCode p = cd at K0 hcd ⊢
    have q1 : (cd != 0) = true := by rw [bne_iff_ne]; exact hcd
    clear hcd
    obtain ⟨pk, pf, pt, ps, pu, pp, pm⟩ := p
    dsimp only at K0 P0 ⊢
    go_enter Tryz.func40, Tryz.ntmps40
    go_wp2_with fail
    refine (K0.out _ P0.out (below2 _ _ _)).mono ?_
    rintro e w1 ⟨rfl, hb⟩
    obtain ⟨hc, hf⟩ := bcell hb
    have HB := Lib.hid hb
    have hz := hb.size
    simp at hz
    clear hb
    go_wp2
    refine bodyPost_ret (v := .agg #[.int .i64 cd, .int .i64 0, .string ⟨#[]⟩, .string ⟨#[]⟩, .int .i64 0, .string ⟨#[]⟩, .int .i64 0, .slice none 0 0]) (by simp [results, Tryz.results40, go_sem, hc]) rfl ⟨_, _, _, rfl, OwnIts.nil _ _ _, ?_⟩
    exact (((((((((below_then (below2 w _ _) HB.out).setCell (by simp) _).setCell (by simp) _).setCell (by simp) _).setCell (by simp) _).setCell (by simp) _).setCell (by simp) _).setCell (by simp) _).setCell (by simp) _)
end Go.Proofs.YtppgdbejbhhjlaaGreatDoor

/- A code and items of one's own are handed back. -/
namespace Go.Proofs.YtppgdbejbhhjlaaGreatDoor
open Go.ChangeShapes Go.WideShapes Go.ChangeAt Go.RowKit
set_option linter.unusedVariables false

/-- a code, and items of one's own -/
def TreeOwn (w : World) (cd : Int) (l : List It) (e : Ending) (w' : World) : Prop := ∃ a n c, e = .returned (.agg #[.int .i64 cd, .slice a n c]) ∧ OwnIts w' w.heap.size w'.heap.size a n c l ∧ Below w.heap.size w w'
end Go.Proofs.YtppgdbejbhhjlaaGreatDoor
