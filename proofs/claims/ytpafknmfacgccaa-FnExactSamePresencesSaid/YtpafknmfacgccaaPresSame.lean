/- spec.SamePresences. -/
import Derived.Test.YtpafknmfacgccaaPr
import Derived.Test.YtpafknmfacgccaaSame2
namespace Go.Proofs.Ytpafknmfacgccaa
open Go.ChangeShapes Go.WideShapes Go.ChangeAt Go.RowKit
set_option linter.unusedVariables false

theorem Pr.eq {x y : Pr} (h0 : x.kind = y.kind) (h1 : x.sender = y.sender) (h2 : x.goal = y.goal) (h3 : x.shown = y.shown) (h4 : x.status = y.status) (h5 : x.prio = y.prio) (h6 : x.more = y.more) : x = y := by cases x; cases y; simp_all
theorem str_ne {s t : ByteArray} (h : s ≠ t) : (s.toList == t.toList) = false := by
  rw [beq_eq_false_iff_ne]
  intro e
  rw [ByteArray.toList_eq, ByteArray.toList_eq] at e
  have h2 := Array.toList_inj.1 e
  exact h (by cases s; cases t; exact congrArg ByteArray.mk h2)
set_option maxRecDepth 100000 in
set_option maxHeartbeats 3200000 in
theorem specSamePresences_any (p p' : Pr) (a a' : Option Addr) (n n' c c' : Nat) (w : World) (bb : Bool) (hbb : bb = true ↔ p = p') (h : ItsAt w a n c p.more) (h' : ItsAt w a' n' c' p'.more) :
    Calls Try.prog 16 #[.agg #[.int .i64 p.kind, .string p.sender, .string p.goal, .int .i64 p.shown, .string p.status, .int .i64 p.prio, .slice a n c], .agg #[.int .i64 p'.kind, .string p'.sender, .string p'.goal, .int .i64 p'.shown, .string p'.status, .int .i64 p'.prio, .slice a' n' c']] w fun e w' => e = .returned (.bool bb) ∧ Below w.heap.size w w' := by
  have H := Lib.hid (h.below (below2 w (.cells #[.int .i64 p.kind, .string p.sender, .string p.goal, .int .i64 p.shown, .string p.status, .int .i64 p.prio, .slice a n c] 39) (.cells #[.int .i64 p'.kind, .string p'.sender, .string p'.goal, .int .i64 p'.shown, .string p'.status, .int .i64 p'.prio, .slice a' n' c'] 39)))
  have H' := Lib.hid (h'.below (below2 w (.cells #[.int .i64 p.kind, .string p.sender, .string p.goal, .int .i64 p.shown, .string p.status, .int .i64 p.prio, .slice a n c] 39) (.cells #[.int .i64 p'.kind, .string p'.sender, .string p'.goal, .int .i64 p'.shown, .string p'.status, .int .i64 p'.prio, .slice a' n' c'] 39)))
  clear h h'
  obtain ⟨pk, pf, pt, ps, pu, pp, pm⟩ := p
  obtain ⟨qk, qf, qt, qs, qu, qp, qm⟩ := p'
  dsimp only at H H' ⊢
  by_cases hk : pk = qk
  case neg =>
    have HF : Hid (bb = false) := Lib.hid (by rw [Bool.eq_false_iff]; exact fun e => hk (congrArg Pr.kind (hbb.1 e)))
    have q1 : (pk == qk) = false := by rw [beq_eq_false_iff_ne]; exact hk
    clear hk hbb
    rw [HF.out]
    go_enter Try.func16, Try.ntmps16
    go_wp2
    go_ret
    exact ⟨rfl, below2 w _ _⟩
  subst hk
  by_cases hf : pf = qf
  case neg =>
    have HF : Hid (bb = false) := Lib.hid (by rw [Bool.eq_false_iff]; exact fun e => hf (congrArg Pr.sender (hbb.1 e)))
    have q1 := str_ne hf
    clear hf hbb
    rw [HF.out]
    go_enter Try.func16, Try.ntmps16
    go_wp2
    go_ret
    exact ⟨rfl, below2 w _ _⟩
  subst hf
  by_cases ht : pt = qt
  case neg =>
    have HF : Hid (bb = false) := Lib.hid (by rw [Bool.eq_false_iff]; exact fun e => ht (congrArg Pr.goal (hbb.1 e)))
    have q1 := str_ne ht
    clear ht hbb
    rw [HF.out]
    go_enter Try.func16, Try.ntmps16
    go_wp2
    go_ret
    exact ⟨rfl, below2 w _ _⟩
  subst ht
  by_cases hs : ps = qs
  case neg =>
    have HF : Hid (bb = false) := Lib.hid (by rw [Bool.eq_false_iff]; exact fun e => hs (congrArg Pr.shown (hbb.1 e)))
    have q1 : (ps == qs) = false := by rw [beq_eq_false_iff_ne]; exact hs
    clear hs hbb
    rw [HF.out]
    go_enter Try.func16, Try.ntmps16
    go_wp2
    go_ret
    exact ⟨rfl, below2 w _ _⟩
  subst hs
  by_cases hu : pu = qu
  case neg =>
    have HF : Hid (bb = false) := Lib.hid (by rw [Bool.eq_false_iff]; exact fun e => hu (congrArg Pr.status (hbb.1 e)))
    have q1 := str_ne hu
    clear hu hbb
    rw [HF.out]
    go_enter Try.func16, Try.ntmps16
    go_wp2
    go_ret
    exact ⟨rfl, below2 w _ _⟩
  subst hu
  by_cases hp : pp = qp
  case neg =>
    have HF : Hid (bb = false) := Lib.hid (by rw [Bool.eq_false_iff]; exact fun e => hp (congrArg Pr.prio (hbb.1 e)))
    have q1 : (pp == qp) = false := by rw [beq_eq_false_iff_ne]; exact hp
    clear hp hbb
    rw [HF.out]
    go_enter Try.func16, Try.ntmps16
    go_wp2
    go_ret
    exact ⟨rfl, below2 w _ _⟩
  subst hp
  have hmm : bb = true ↔ pm = qm := hbb.trans ⟨fun e => congrArg Pr.more e, fun e => by rw [e]⟩
  have HM := Lib.hid hmm
  clear hbb hmm
  go_enter Try.func16, Try.ntmps16
  go_wp2_with fail
  refine (specSameTrees_any a a' n n' c c' pm qm _ bb HM.out H.out H'.out).mono ?_
  rintro e w2 ⟨rfl, nd, rfl⟩
  go_wp2
  go_ret
  exact ⟨rfl, below_drewN (below2 w _ _) nd⟩
end Go.Proofs.Ytpafknmfacgccaa
