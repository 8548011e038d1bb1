/-
  'FnExactSamePresences' returns true at every input and leaves its argument as it was: the statement 'Rows.FnExactSamePresencesSaid', for every input, no condition.
-/
import Derived.Test.YtpafknmfacgccaaRows
import Derived.Test.YtpafknmfacgccaaWSamePres
import Derived.Test.YtpafknmfacgccaaPrIn
import Derived.WalkKit
import Derived.ProofKit
import Derived.OpenShut
import Derived.ShutString
import Derived.ChangeOld
import Derived.Below
namespace Go.Proofs.Ytpafknmfacgccaa.fnExactSamePresences
open Go.ChangeShapes Go.WideShapes Go.ChangeAt Go.RowKit
open Go.ChangeMaps (open_string shut_string)
set_option linter.unusedVariables false

theorem own : ownKnob Try.prog.godebug = none := by kernel_rfl
theorem laidOut : laidOutB Try.prog = true := by kernel_rfl

set_option maxRecDepth 100000 in
theorem lifted (os : Os) (started : os.Started) (H : Type) (enc : TypeId × Value → H) :
    ReturnsInHanded {} Try.checked os 5 .any (Rows.fnExactSamePresencesSpec.pre6 enc Try.prog Try.f5 Rows.fnExactSamePresencesRow.domain false) (Rows.fnExactSamePresencesSpec.post enc Try.prog Try.f5 false true false false) := by
  refine returnsInHanded_of_change (C := Try.checked) own started (by kernel_rfl) Try.func5
    (ChangeSpec.witness6 (enc := enc) (C := Try.checked) false ⟨#[], #[.agg #[.int .i64 0, .string ByteArray.empty, .string ByteArray.empty, .int .i64 0, .string ByteArray.empty, .int .i64 0, .slice none 0 0], .agg #[.int .i64 0, .string ByteArray.empty, .string ByteArray.empty, .int .i64 0, .string ByteArray.empty, .int .i64 0, .slice none 0 0]], []⟩ 8 (by kernel_rfl) (by kernel_rfl) (by kernel_rfl) (by kernel_rfl)) ?_
  intro W base args ds gs before hval0 hW hcnd _
  have hval : ∀ (j : Nat) t v, Try.f5.params[j]? = some t → args[j]? = some v → Value.okWide Try.prog W .any base t v := hval0
  have hW' := hW
  obtain ⟨p, q, hA0, hV, rfl, hfz, hnd⟩ := hW
  have hA : DataW.TrodAll enc Try.prog W 0 (fun _ => true) true Try.f5.params.toList args.toList ds p := hA0
  rw [Try.params5] at hA hval
  obtain ⟨v0, vs0, d0, ds0, p0, q0, hargs, rfl, rfl, h0, r0⟩ := trodAll_cons hA
  obtain ⟨v1, vs1, d1, ds1, p1, q1, rfl, rfl, rfl, h1, r1⟩ := trodAll_cons r0
  obtain ⟨rfl, rfl, rfl⟩ := trodAll_nil r1
  obtain rfl : args = #[v0, v1] := by cases args; simp_all
  obtain ⟨rfl, rfl⟩ := trodVars_none hV
  obtain ⟨cs0, rfl, hz0⟩ := okWide_struct Try.underlying35 (hval 0 35 v0 rfl rfl)
  have k0 := h0
  have lt0 : ∀ x ∈ p0, x.block < W.heap.size := by obtain ⟨m, hm⟩ := k0; exact DataW.trod_lt m _ _ _ hm
  obtain ⟨y0, a0, len0, cap0, e0, ws0, w0⟩ : ∃ (p : Pr) (a : Option Addr) (k c : Nat), cs0.toList = [.int .i64 p.kind, .string p.sender, .string p.goal, .int .i64 p.shown, .string p.status, .int .i64 p.prio, .slice a k c] ∧ PrSize p ∧ ItsAt W a k c p.more := by
    obtain ⟨fuel, hf⟩ := h0
    exact pr_open (by rw [Array.length_toList, hz0]; exact cellsPr) (by simpa [Value.cells] using hf)
  obtain rfl : cs0 = #[.int .i64 y0.kind, .string y0.sender, .string y0.goal, .int .i64 y0.shown, .string y0.status, .int .i64 y0.prio, .slice a0 len0 cap0] := by apply Array.toList_inj.1; rw [e0]
  obtain ⟨cs1, rfl, hz1⟩ := okWide_struct Try.underlying35 (hval 1 35 v1 rfl rfl)
  have k1 := h1
  have lt1 : ∀ x ∈ p1, x.block < W.heap.size := by obtain ⟨m, hm⟩ := k1; exact DataW.trod_lt m _ _ _ hm
  obtain ⟨y1, a1, len1, cap1, e1, ws1, w1⟩ : ∃ (p : Pr) (a : Option Addr) (k c : Nat), cs1.toList = [.int .i64 p.kind, .string p.sender, .string p.goal, .int .i64 p.shown, .string p.status, .int .i64 p.prio, .slice a k c] ∧ PrSize p ∧ ItsAt W a k c p.more := by
    obtain ⟨fuel, hf⟩ := h1
    exact pr_open (by rw [Array.length_toList, hz1]; exact cellsPr) (by simpa [Value.cells] using hf)
  obtain rfl : cs1 = #[.int .i64 y1.kind, .string y1.sender, .string y1.goal, .int .i64 y1.shown, .string y1.status, .int .i64 y1.prio, .slice a1 len1 cap1] := by apply Array.toList_inj.1; rw [e1]
  clear hA0 hval0
  refine (fnExactSamePresences_walk y0 a0 len0 cap0 y1 a1 len1 cap1 W ws0 w0 ws1 w1).mono fun e W' ⟨he, bel⟩ => ?_
  subst he
  exact ⟨_, rfl, _, _, _, [], _, [], hW', trodAll_mk1 (shut_bool Try.underlying4 _), (trodAll_cons_mk (Below.trod laidOut (by kernel_rfl) (of_decide_eq_true (by kernel_rfl)) k0 bel lt0) (trodAll_cons_mk (Below.trod laidOut (by kernel_rfl) (of_decide_eq_true (by kernel_rfl)) k1 bel lt1) trodAll_mk0)), rfl, bel.frame _, fun h => by cases h⟩

theorem over : Rows.fnExactSamePresencesRow.holds Try.pinned (OpenSpec.ofChange Rows.fnExactSamePresencesSpec) :=
  OpenClaim.holds_of_wide 5 Try.f5 rfl rfl rfl rfl rfl rfl rfl ⟨rfl, rfl, rfl, rfl, rfl⟩ rfl rfl rfl rfl rfl (by kernel_rfl) Try.func5 (by kernel_rfl)
    (of_decide_eq_true (by kernel_rfl)) (by unfold Func.isWrapper; first | (rw [if_pos (by decide +kernel)]; kernel_rfl) | (rw [if_neg (by decide +kernel)]; exact ⟨rfl, rfl⟩))
    (fun os started H enc _ => lifted os started H enc)

theorem proved : Rows.FnExactSamePresencesSaid := over
#print axioms proved
end Go.Proofs.Ytpafknmfacgccaa.fnExactSamePresences
