/- toPresence: the copy is of one's own. -/
import Derived.Test.YtpafknmfacgccaaGreatDoorGT1
import Derived.Test.YtpafknmfacgccaaGreatDoorGT28
import Derived.Test.YtpafknmfacgccaaGreatDoorGT33
namespace Go.Proofs.YtpafknmfacgccaaGreatDoor
open Go.ChangeShapes Go.WideShapes Go.ChangeAt Go.RowKit
set_option linter.unusedVariables false

/-- a presence of one's own is handed back -/
def PrOwn (w : World) (p : Pr) (e : Ending) (w' : World) : Prop :=
  ∃ a n c, e = .returned (.agg #[.int .i64 p.kind, .string p.sender, .string p.goal, .int .i64 p.shown, .string p.status, .int .i64 p.prio, .slice a n c]) ∧ OwnIts w' w.heap.size w'.heap.size a n c p.more ∧ Below w.heap.size w w'
set_option maxRecDepth 100000 in
set_option maxHeartbeats 1600000 in
theorem toPresence_own (p : Pr) (a : Option Addr) (n c : Nat) (w : World) (hp : SmallPr p) (h : ItsAt w a n c p.more) :
    Calls Tryz.prog 31 #[.agg #[.int .i64 p.kind, .string p.sender, .string p.goal, .int .i64 p.shown, .string p.status, .int .i64 p.prio, .slice a n c]] w (PrOwn w p) := by
  obtain ⟨pk, pf, pt, ps, pu, pp, pm⟩ := p
  have hm := hp.more
  dsimp only at hm h ⊢
  have K := Lib.hid (fun W (hb : Below w.heap.size w W) => toItemS_own a n c pm W hm (h.below hb))
  clear h hp hm
  go_enter Tryz.func31, Tryz.ntmps31
  go_wp2_with fail
  refine (K.out _ (below3 _ _ _ _)).mono ?_
  rintro e w1 ⟨a1, n1, c1, rfl, hat, hb⟩
  obtain ⟨hc, hf⟩ := bcell hb
  have hz : w.heap.size + 2 < w1.heap.size := by have := hb.size; simp at this; omega
  have HAT := Lib.hid (hat.mono (lo' := w.heap.size + 3) (by simp) (Nat.le_refl _))
  have HB := Lib.hid hb
  clear hat hb
  go_wp2
  refine bodyPost_ret (v := .agg #[.int .i64 pk, .string pf, .string pt, .int .i64 ps, .string pu, .int .i64 pp, .slice a1 n1 c1]) (by simp [results, Tryz.results31, go_sem, hc]) rfl ⟨_, _, _, rfl, ?_, ?_⟩
  · have st : ∀ (W : World) (p : Addr) (v : Value), p.block < w.heap.size + 3 → OwnIts W (w.heap.size + 3) w1.heap.size a1 n1 c1 pm → OwnIts (W.setCell p v) (w.heap.size + 3) w1.heap.size a1 n1 c1 pm := fun W p v hp h =>
      h.only (Only.set (P := fun i => i < w.heap.size + 3) W p v hp) fun i hlo hhi hle => by omega
    refine OwnIts.mono (lo := w.heap.size + 3) (hi := w1.heap.size) ?_ (by omega) (by simp)
    exact st _ _ _ (by dsimp only; omega) (st _ _ _ (by dsimp only; omega) (st _ _ _ (by dsimp only; omega) (st _ _ _ (by dsimp only; omega) (st _ _ _ (by dsimp only; omega) (st _ _ _ (by dsimp only; omega) (st _ _ _ (by dsimp only; omega) (st _ _ _ (by dsimp only; omega) HAT.out)))))))
  · have hb := below_then (below3 _ _ _ _) HB.out
    exact (((((((hb.setCell (by first | (simp; omega) | simp | omega) _).setCell (by first | (simp; omega) | simp | omega) _).setCell (by first | (simp; omega) | simp | omega) _).setCell (by first | (simp; omega) | simp | omega) _).setCell (by first | (simp; omega) | simp | omega) _).setCell (by first | (simp; omega) | simp | omega) _).setCell (by first | (simp; omega) | simp | omega) _).setCell (by first | (simp; omega) | simp | omega) _
end Go.Proofs.YtpafknmfacgccaaGreatDoor

/- eqPresence at two readings of one presence. -/
namespace Go.Proofs.YtpafknmfacgccaaGreatDoor
open Go.ChangeShapes Go.WideShapes Go.ChangeAt Go.RowKit
set_option linter.unusedVariables false

set_option maxRecDepth 100000 in
set_option maxHeartbeats 1600000 in
theorem eqPresence_true (p : Pr) (a a' : Option Addr) (n n' c c' : Nat) (w : World) (h : ItsAt w a n c p.more) (h' : ItsAt w a' n' c' p.more) :
    Calls Tryz.prog 33 #[.agg #[.int .i64 p.kind, .string p.sender, .string p.goal, .int .i64 p.shown, .string p.status, .int .i64 p.prio, .slice a n c], .agg #[.int .i64 p.kind, .string p.sender, .string p.goal, .int .i64 p.shown, .string p.status, .int .i64 p.prio, .slice a' n' c']] w fun e w' => e = .returned (.bool true) ∧ Below w.heap.size w w' := by
  obtain ⟨pk, pf, pt, ps, pu, pp, pm⟩ := p
  dsimp only at h h' ⊢
  have K := Lib.hid (fun W (hb : Below w.heap.size w W) => eqItemS_true a a' n n' c c' pm W (h.below hb) (h'.below hb))
  clear h h'
  go_enter Tryz.func33, Tryz.ntmps33
  go_wp2_with fail
  refine (K.out _ (below2 _ _ _)).mono ?_
  rintro e w1 ⟨rfl, hb⟩
  go_wp2
  go_ret
  exact ⟨rfl, below_then (below2 _ _ _) hb⟩
end Go.Proofs.YtpafknmfacgccaaGreatDoor
