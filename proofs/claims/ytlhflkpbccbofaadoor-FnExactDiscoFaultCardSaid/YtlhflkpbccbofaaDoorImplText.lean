/- Contract of the program's TextFault. -/
import Derived.Test.YtlhflkpbccbofaaDoorIter
namespace Go.Proofs.YtlhflkpbccbofaaDoor
open Go.RowKit Go.Shelf
set_option linter.unusedVariables false

attribute [local go_sem] Oper.semAt_some

theorem bool_int {a b : Int} (h : a = b) : Ending.returned (.int .i64 a) = .returned (.int .i64 b) := by rw [h]
def cfault (b : Bool) : Int := if b then 0 else 5
theorem prefix_bad {l : List UInt8} {pre : List (Int × Bool)} (hp : pre <+: strm l) (hb : pre.all goodB = false) : charsB l = false := by
  unfold charsB
  rw [Bool.eq_false_iff] at hb ⊢
  intro h
  apply hb
  rw [List.all_eq_true] at h ⊢
  exact fun x hx => h x (hp.subset hx)

set_option maxRecDepth 100000 in
set_option maxHeartbeats 4000000 in
theorem implTextFault_in (s : ByteArray) (hs : s.size ≤ 60) (w : World) (hT : Tabs w) :
    CallsIn Fence.wide 6 Tryd.prog 52 #[.string s] w fun e W' => e = .returned (.int .i64 (cfault (charsB s.data.toList))) ∧ Below w.heap.size w W' := by
  refine callsIn_of_wp_marks Tryd.func52 rfl trivial ?_ rfl
  simp only [Tryd.ntmps52, List.size_toArray, List.length_cons, List.length_nil, Nat.reduceAdd, Nat.reduceSub, Array.replicate_succ, Array.replicate_zero, List.push_toArray, List.append_toArray, List.nil_append, List.cons_append]
  gi_wp2_with (refine ⟨trivial, ?_⟩; gi_at_call 62; refine (pointsIn_in _ _ _).mono ?_; rintro e w' ⟨rfl, rfl⟩)
  have bR := Boxed.new w 2 (.int .i64 0)
  have bT := Boxed.new (w.alloc (.cells #[.int .i64 0] 2)) 9 (.string s)
  rw [World.size_alloc] at bT
  have hB0 : Below w.heap.size w ((w.alloc (.cells #[.int .i64 0] 2)).alloc (.cells #[.string s] 9)) := below2 w _ _
  refine wpIn_rangeFunc_ownF rfl (by omega) (gf := 69) (lb := #[.pointer (some ⟨w.heap.size + 1, 0, none⟩)]) rfl trivial (enters_of Tryd.func69 (by kernel_rfl) rfl)
    (iter_stops _ (by omega) (w.heap.size + 1) w.heap.size s (by omega) (gs_of_tabs hT) _ (by simp) (by simp; omega) bT.cell (tabs_kept hT hB0)) (fun h k => KpT.trans h k) (kpT_b (by simp; omega) (by simp)) (Below.refl _ _) (fun _ => rfl)
    (fun pre W => (pre.all goodB = true ∧ Boxed W w.heap.size 2 (.int .i64 0) ∧ Boxed W (w.heap.size + 1) 9 (.string s)) ∧ Below w.heap.size w W)
    (fun c pre W => (c = .ret ∧ pre.all goodB = false ∧ Boxed W w.heap.size 2 (.int .i64 5)) ∧ Below w.heap.size w W)
    (OwnFrom.and (Own.from (fun s A B row hs hg hr => ⟨hs.1, hs.2.1.kept hg (fun e => by obtain ⟨o, ho, hc⟩ := hr _ e.symm; rw [show A.heap[_]? = _ from hs.2.1] at ho; cases ho; cases hc), hs.2.2.kept hg (fun e => by obtain ⟨o, ho, hc⟩ := hr _ e.symm; rw [show A.heap[_]? = _ from hs.2.2] at ho; cases ho; cases hc)⟩) _) (ownFrom_below (Nat.le_refl _) (by simp; omega)))
    (fun c => OwnFrom.and (Own.from (fun s A B row hs hg hr => ⟨hs.1, hs.2.1, hs.2.2.kept hg (fun e => by obtain ⟨o, ho, hc⟩ := hr _ e.symm; rw [show A.heap[_]? = _ from hs.2.2] at ho; cases ho; cases hc)⟩) _) (ownFrom_below (Nat.le_refl _) (by simp; omega)))
    ⟨⟨rfl, bR.alloc _, bT⟩, hB0⟩
    (fun x => { tmps := #[.string s, undef, .pointer (some ⟨w.heap.size, 0, none⟩), .int .i64 x.1, .bool x.2, .string s, .int .i64 s.size, .bool (decide ((60 : Int) < (s.size : Int))), .string s, .func (.func 69) #[] #[.pointer (some ⟨w.heap.size + 1, 0, none⟩)], .int .i64 x.1, .bool x.2, undef, undef, undef, undef, undef, undef, undef], defers := [] }) ?assign ?body ?done ?stop
  case assign =>
    intro l x W K hK
    unfold encP
    gi_wp2
    exact hK
  case body =>
    rintro l pre ⟨p, ok⟩ W ⟨⟨hall, hR, hTx⟩, hB⟩ _
    have hc := hR.cell
    have hf := hR.frozen
    have HA := Lib.hid hall
    clear hall
    cases ok
    · gi_wp2
      refine ⟨trivial, ?_⟩
      gi_wp2
      exact ⟨KeepsOthers.setCell _ _ _, ⟨rfl, by rw [List.all_append, HA.out]; rfl, hR.set _⟩, hB.setCell (p := ⟨w.heap.size, 0, none⟩) (Nat.le_refl _) _⟩
    · cases hcb : charB p
      · have HC := Lib.hid hcb
        gi_wp2_with (refine ⟨trivial, ?_⟩; gi_at_call 63; refine (CallsIn.inRound l (callsIn_wide.2 (implIsChar_any p _))).mono ?_; rintro e w1 ⟨rfl, hb1⟩; have hR1 : Boxed w1 w.heap.size 2 (.int .i64 0) := (hb1.block _ hR.lt).trans hR; have hc1 := hR1.cell; have hf1 := hR1.frozen)
        exact ⟨(keeps_below hb1).trans (KeepsOthers.setCell _ _ _), ⟨rfl, by rw [List.all_append, HA.out]; simp [goodB, HC.out], hR1.set _⟩, (hB.trans (hb1.mono hB.size)).setCell (p := ⟨w.heap.size, 0, none⟩) (Nat.le_refl _) _⟩
      · have HC := Lib.hid hcb
        gi_wp2_with (refine ⟨trivial, ?_⟩; gi_at_call 63; refine (CallsIn.inRound l (callsIn_wide.2 (implIsChar_any p _))).mono ?_; rintro e w1 ⟨rfl, hb1⟩)
        exact ⟨keeps_below hb1, KpT.of_below hb1 hB.size hTx.lt, ⟨by rw [List.all_append, HA.out]; simp [goodB, HC.out], (hb1.block _ hR.lt).trans hR, (hb1.block _ hTx.lt).trans hTx⟩, hB.trans (hb1.mono hB.size)⟩
  case done =>
    rintro D ys W hD rfl ⟨⟨hall, hR, hTx⟩, hB⟩ hK
    have hc := hR.cell
    have hf := hR.frozen
    gi_wp2
    have hK' := (KeepsOthers.setCell W ⟨w.heap.size, 0, none⟩ (.int .i64 0)).same D _ hK rfl
    refine ⟨by simp, .inl ⟨_, _, rfl, run_takeDeferred hK', ?_⟩⟩
    have hc5 := cell_kept (hR.set (.int .i64 0)).cell (grownBy_putObj' _ D (.deferred none)) (fun r e => by cases e; exact ⟨_, hK', rfl⟩)
    refine ⟨.int .i64 0, ?_, bool_int (by unfold charsB; rw [hall]; rfl), (hB.setCell (p := ⟨w.heap.size, 0, none⟩) (Nat.le_refl _) _).trans (belowK_b (w := w) (Nat.le_refl _) _ D _ _ (by simp at hD; omega) hK' rfl rfl)⟩
    simp [results, Tryd.f52, go_sem, hc5]
  case stop =>
    rintro D c pre W hD hpre ⟨⟨rfl, hbad, hR⟩, hB⟩ hK
    gi_wp2
    refine ⟨by simp, .inl ⟨_, _, rfl, run_takeDeferred hK, ?_⟩⟩
    have hc5 := cell_kept hR.cell (grownBy_putObj' _ D (.deferred none)) (fun r e => by cases e; exact ⟨_, hK, rfl⟩)
    refine ⟨.int .i64 5, ?_, bool_int (by rw [prefix_bad hpre hbad]; rfl), hB.trans (belowK_b (w := w) (Nat.le_refl _) W D _ _ (by simp at hD; omega) hK rfl rfl)⟩
    simp [results, Tryd.f52, go_sem, hc5]

/-- the program's TextFault -/
theorem implTextFault_any (s : ByteArray) (hs : s.size ≤ maxLen) (w : World) (hT : Tabs w) :
    Calls Tryd.prog 52 #[.string s] w fun e w' => e = .returned (.int .i64 (textFault s.data.toList)) ∧ Below w.heap.size w w' := by
  have hl : s.data.toList.length = s.size := by simp
  unfold textFault
  rw [hl]
  by_cases h : 60 < s.size
  · rw [if_pos h]
    clear hl
    unfold maxLen at hs
    go_enter Tryd.func52, Tryd.ntmps52
    go_wp2
    exact bodyPost_ret (v := .int .i64 2) (by simp [results, Tryd.results52, go_sem]) rfl ⟨rfl, below1 w _⟩
  · rw [if_neg h]
    exact callsIn_wide.1 (implTextFault_in s (by omega) w hT)
end Go.Proofs.YtlhflkpbccbofaaDoor
