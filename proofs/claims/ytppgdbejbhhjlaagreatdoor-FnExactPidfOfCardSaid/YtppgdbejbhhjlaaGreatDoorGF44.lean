/- szPresence: what came in is small. -/
import Derived.Test.YtppgdbejbhhjlaaGreatDoorGF1
import Derived.Test.YtppgdbejbhhjlaaGreatDoorGF43
import Derived.Test.YtppgdbejbhhjlaaGreatDoorGF18
namespace Go.Proofs.YtppgdbejbhhjlaaGreatDoor
open Go.ChangeShapes Go.WideShapes Go.ChangeAt Go.RowKit
set_option linter.unusedVariables false

set_option maxHeartbeats 800000 in
theorem szPresence_any (p : Pr) (a : Option Addr) (n c : Nat) (left : Int) (w : World) (h0 : 0 ≤ left) (h1 : left ≤ 1048576) (hp : PrSize p) (h : ItsAt w a n c p.more) :
    Calls Tryz.prog 54 #[.agg #[.int .i64 p.kind, .string p.sender, .string p.goal, .int .i64 p.shown, .string p.status, .int .i64 p.prio, .slice a n c], .int .i64 left] w (SzRes (Left left (SmallPr p)) w) := by
  obtain ⟨pk, pf, pt, ps, pu, pp, pm⟩ := p
  obtain ⟨s1, s2, s4⟩ := hp
  dsimp only at s1 s2 s4 h ⊢
  by_cases k1 : (pf.size : Int) ≤ left
  case neg =>
    clear h
    go_enter Tryz.func54, Tryz.ntmps54
    go_wp2
    go_ret
    exact SzRes.mk Left.no (below1 _ _)
  by_cases k2 : (pt.size : Int) ≤ left - pf.size
  case neg =>
    clear h
    go_enter Tryz.func54, Tryz.ntmps54
    go_wp2
    go_ret
    exact SzRes.mk Left.no (below1 _ _)
  by_cases k4 : (pu.size : Int) ≤ left - pf.size - pt.size
  case neg =>
    clear h
    go_enter Tryz.func54, Tryz.ntmps54
    go_wp2
    go_ret
    exact SzRes.mk Left.no (below1 _ _)
  have K := Lib.hid (fun o => szItemS_any a n c pm (left - pf.size - pt.size - pu.size) (w.alloc o) (by omega) (by omega) (h.below (below1 w o)))
  clear h
  go_enter Tryz.func54, Tryz.ntmps54
  go_wp2_with fail
  refine (K.out _).mono ?_
  rintro e w2 ⟨r, hr, rfl, hb2⟩
  have HB := Lib.hid (below_then (below1 w _) hb2)
  clear hb2
  rcases hr with rfl | ⟨hr0, hr1, hsm⟩
  · go_wp2
    go_ret
    exact SzRes.mk Left.no HB.out
  · have HSM := Lib.hid hsm
    clear hsm
    go_wp2
    go_ret
    exact SzRes.mk (Left.yes hr0 (by omega) ⟨⟨by show pf.size ≤ _; omega, by show pt.size ≤ _; omega, by show pu.size ≤ _; omega⟩, HSM.out⟩) HB.out
end Go.Proofs.YtppgdbejbhhjlaaGreatDoor

/- toPresence: the copy is of one's own. -/
namespace Go.Proofs.YtppgdbejbhhjlaaGreatDoor
open Go.ChangeShapes Go.WideShapes Go.ChangeAt Go.RowKit
set_option linter.unusedVariables false

/-- a presence of one's own is handed back -/
def PrOwn (w : World) (p : Pr) (e : Ending) (w' : World) : Prop :=
  ∃ a n c, e = .returned (.agg #[.int .i64 p.kind, .string p.sender, .string p.goal, .int .i64 p.shown, .string p.status, .int .i64 p.prio, .slice a n c]) ∧ OwnIts w' w.heap.size w'.heap.size a n c p.more ∧ Below w.heap.size w w'
set_option maxRecDepth 100000 in
set_option maxHeartbeats 1600000 in
theorem toPresence_own (p : Pr) (a : Option Addr) (n c : Nat) (w : World) (hp : SmallPr p) (h : ItsAt w a n c p.more) :
    Calls Tryz.prog 55 #[.agg #[.int .i64 p.kind, .string p.sender, .string p.goal, .int .i64 p.shown, .string p.status, .int .i64 p.prio, .slice a n c]] w (PrOwn w p) := by
  obtain ⟨pk, pf, pt, ps, pu, pp, pm⟩ := p
  have hm := hp.more
  dsimp only at hm h ⊢
  have K := Lib.hid (fun W (hb : Below w.heap.size w W) => toItemS_own a n c pm W hm (h.below hb))
  clear h hp hm
  go_enter Tryz.func55, Tryz.ntmps55
  go_wp2_with fail
  refine (K.out _ (below3 _ _ _ _)).mono ?_
  rintro e w1 ⟨a1, n1, c1, rfl, hat, hb⟩
  obtain ⟨hc, hf⟩ := bcell hb
  have hz : w.heap.size + 2 < w1.heap.size := by have := hb.size; simp at this; omega
  have HAT := Lib.hid (hat.mono (lo' := w.heap.size + 3) (by simp) (Nat.le_refl _))
  have HB := Lib.hid hb
  clear hat hb
  go_wp2
  refine bodyPost_ret (v := .agg #[.int .i64 pk, .string pf, .string pt, .int .i64 ps, .string pu, .int .i64 pp, .slice a1 n1 c1]) (by simp [results, Tryz.results55, go_sem, hc]) rfl ⟨_, _, _, rfl, ?_, ?_⟩
  · have st : ∀ (W : World) (p : Addr) (v : Value), p.block < w.heap.size + 3 → OwnIts W (w.heap.size + 3) w1.heap.size a1 n1 c1 pm → OwnIts (W.setCell p v) (w.heap.size + 3) w1.heap.size a1 n1 c1 pm := fun W p v hp h =>
      h.only (Only.set (P := fun i => i < w.heap.size + 3) W p v hp) fun i hlo hhi hle => by omega
    refine OwnIts.mono (lo := w.heap.size + 3) (hi := w1.heap.size) ?_ (by omega) (by simp)
    exact st _ _ _ (by dsimp only; omega) (st _ _ _ (by dsimp only; omega) (st _ _ _ (by dsimp only; omega) (st _ _ _ (by dsimp only; omega) (st _ _ _ (by dsimp only; omega) (st _ _ _ (by dsimp only; omega) (st _ _ _ (by dsimp only; omega) (st _ _ _ (by dsimp only; omega) HAT.out)))))))
  · have hb := below_then (below3 _ _ _ _) HB.out
    exact (((((((hb.setCell (by first | (simp; omega) | simp | omega) _).setCell (by first | (simp; omega) | simp | omega) _).setCell (by first | (simp; omega) | simp | omega) _).setCell (by first | (simp; omega) | simp | omega) _).setCell (by first | (simp; omega) | simp | omega) _).setCell (by first | (simp; omega) | simp | omega) _).setCell (by first | (simp; omega) | simp | omega) _).setCell (by first | (simp; omega) | simp | omega) _
end Go.Proofs.YtppgdbejbhhjlaaGreatDoor
