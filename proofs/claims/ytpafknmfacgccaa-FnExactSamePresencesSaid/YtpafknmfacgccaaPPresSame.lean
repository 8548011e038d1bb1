/- The program's SamePresences. -/
import Derived.Test.YtpafknmfacgccaaPresSame
import Derived.Test.YtpafknmfacgccaaImplSame2
namespace Go.Proofs.Ytpafknmfacgccaa
open Go.ChangeShapes Go.WideShapes Go.ChangeAt Go.RowKit
set_option linter.unusedVariables false

set_option maxRecDepth 100000 in
set_option maxHeartbeats 3200000 in
theorem implSamePresences_any (p p' : Pr) (a a' : Option Addr) (n n' c c' : Nat) (w : World) (bb : Bool) (hbb : bb = true ↔ p = p') (h : ItsAt w a n c p.more) (h' : ItsAt w a' n' c' p'.more) :
    Calls Try.prog 18 #[.agg #[.int .i64 p.kind, .string p.sender, .string p.goal, .int .i64 p.shown, .string p.status, .int .i64 p.prio, .slice a n c], .agg #[.int .i64 p'.kind, .string p'.sender, .string p'.goal, .int .i64 p'.shown, .string p'.status, .int .i64 p'.prio, .slice a' n' c']] w fun e w' => e = .returned (.bool bb) ∧ Below w.heap.size w w' := by
  have H := Lib.hid (h.below (below2 w (.cells #[.int .i64 p.kind, .string p.sender, .string p.goal, .int .i64 p.shown, .string p.status, .int .i64 p.prio, .slice a n c] 39) (.cells #[.int .i64 p'.kind, .string p'.sender, .string p'.goal, .int .i64 p'.shown, .string p'.status, .int .i64 p'.prio, .slice a' n' c'] 39)))
  have H' := Lib.hid (h'.below (below2 w (.cells #[.int .i64 p.kind, .string p.sender, .string p.goal, .int .i64 p.shown, .string p.status, .int .i64 p.prio, .slice a n c] 39) (.cells #[.int .i64 p'.kind, .string p'.sender, .string p'.goal, .int .i64 p'.shown, .string p'.status, .int .i64 p'.prio, .slice a' n' c'] 39)))
  clear h h'
  obtain ⟨pk, pf, pt, ps, pu, pp, pm⟩ := p
  obtain ⟨qk, qf, qt, qs, qu, qp, qm⟩ := p'
  dsimp only at H H' ⊢
  by_cases hk : pk = qk
  case neg =>
    have HF : Hid (bb = false) := Lib.hid (by rw [Bool.eq_false_iff]; exact fun e => hk (congrArg Pr.kind (hbb.1 e)))
    have q1 : (pk == qk) = false := by rw [beq_eq_false_iff_ne]; exact hk
    clear hk hbb
    rw [HF.out]
    go_enter Try.func18, Try.ntmps18
    go_wp2
    go_ret
    exact ⟨rfl, below2 w _ _⟩
  subst hk
  by_cases hf : pf = qf
  case neg =>
    have HF : Hid (bb = false) := Lib.hid (by rw [Bool.eq_false_iff]; exact fun e => hf (congrArg Pr.sender (hbb.1 e)))
    have q1 := str_ne hf
    clear hf hbb
    rw [HF.out]
    go_enter Try.func18, Try.ntmps18
    go_wp2
    go_ret
    exact ⟨rfl, below2 w _ _⟩
  subst hf
  by_cases ht : pt = qt
  case neg =>
    have HF : Hid (bb = false) := Lib.hid (by rw [Bool.eq_false_iff]; exact fun e => ht (congrArg Pr.goal (hbb.1 e)))
    have q1 := str_ne ht
    clear ht hbb
    rw [HF.out]
    go_enter Try.func18, Try.ntmps18
    go_wp2
    go_ret
    exact ⟨rfl, below2 w _ _⟩
  subst ht
  by_cases hs : ps = qs
  case neg =>
    have HF : Hid (bb = false) := Lib.hid (by rw [Bool.eq_false_iff]; exact fun e => hs (congrArg Pr.shown (hbb.1 e)))
    have q1 : (ps == qs) = false := by rw [beq_eq_false_iff_ne]; exact hs
    clear hs hbb
    rw [HF.out]
    go_enter Try.func18, Try.ntmps18
    go_wp2
    go_ret
    exact ⟨rfl, below2 w _ _⟩
  subst hs
  by_cases hu : pu = qu
  case neg =>
    have HF : Hid (bb = false) := Lib.hid (by rw [Bool.eq_false_iff]; exact fun e => hu (congrArg Pr.status (hbb.1 e)))
    have q1 := str_ne hu
    clear hu hbb
    rw [HF.out]
    go_enter Try.func18, Try.ntmps18
    go_wp2
    go_ret
    exact ⟨rfl, below2 w _ _⟩
  subst hu
  by_cases hp : pp = qp
  case neg =>
    have HF : Hid (bb = false) := Lib.hid (by rw [Bool.eq_false_iff]; exact fun e => hp (congrArg Pr.prio (hbb.1 e)))
    have q1 : (pp == qp) = false := by rw [beq_eq_false_iff_ne]; exact hp
    clear hp hbb
    rw [HF.out]
    go_enter Try.func18, Try.ntmps18
    go_wp2
    go_ret
    exact ⟨rfl, below2 w _ _⟩
  subst hp
  have hmm : bb = true ↔ pm = qm := hbb.trans ⟨fun e => congrArg Pr.more e, fun e => by rw [e]⟩
  have HM := Lib.hid hmm
  clear hbb hmm
  go_enter Try.func18, Try.ntmps18
  go_wp2_with fail
  refine (implSameTrees_any a a' n n' c c' pm qm _ bb HM.out H.out H'.out).mono ?_
  rintro e w2 ⟨rfl, hb2⟩
  go_wp2
  go_ret
  exact ⟨rfl, below_then (below2 w _ _) hb2⟩
end Go.Proofs.Ytpafknmfacgccaa
