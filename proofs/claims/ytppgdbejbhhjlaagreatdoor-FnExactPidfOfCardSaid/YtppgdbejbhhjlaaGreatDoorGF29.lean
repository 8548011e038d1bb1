/- Facts on the tree of another format. -/
import Derived.Test.YtppgdbejbhhjlaaGreatDoorGF12
import Derived.Test.YtppgdbejbhhjlaaGreatDoorGF23
import Derived.Test.YtppgdbejbhhjlaaGreatDoorGF19
import Derived.Test.YtppgdbejbhhjlaaGreatDoorGF25
import Derived.Test.YtppgdbejbhhjlaaGreatDoorGF28
namespace Go.Proofs.YtppgdbejbhhjlaaGreatDoor
open Go.ChangeShapes Go.WideShapes Go.ChangeAt Go.RowKit
set_option linter.unusedVariables false

theorem presCode_shown {p : Pr} (h : presCode p = 0) : 0 ≤ p.shown ∧ p.shown ≤ 4 := by
  unfold presCode at h
  split at h
  · omega
  · rename_i h1
    rw [Bool.not_eq_false, Bool.and_eq_true, Bool.and_eq_true] at h1
    simpa [inB] using h1.1.2
theorem projT_small {p : Pr} (h : SmallPr p) : (projT p).sender.size ≤ 1000 := by
  unfold projT
  by_cases hc : projCode p = 0
  · rw [if_pos hc]
    unfold projCode at hc
    show p.sender.size ≤ 1000
    split at hc
    · omega
    · split at hc
      · omega
      · split at hc
        · omega
        · omega
  · rw [if_neg hc]
    decide
theorem projT_good (p : Pr) : ((projT p).kind = 0 ∨ (projT p).kind = 1) ∧ ((projT p).shown = 0 ∨ (projT p).shown = 1 ∨ (projT p).shown = 3) := by
  unfold projT
  by_cases hc : projCode p = 0
  · rw [if_pos hc]
    unfold projCode at hc
    split at hc
    · omega
    · rename_i h1
      have h0 : presCode p = 0 := Decidable.not_not.1 h1
      have hk := presCode_kind h0
      have hs := presCode_shown h0
      split at hc
      · omega
      · rename_i h2
        have hk2 : ¬ 1 < p.kind := fun h => h2 (by unfold askB; rw [decide_eq_true h]; rfl)
        refine ⟨by show p.kind = 0 ∨ p.kind = 1; omega, ?_⟩
        show sharedS p.shown = 0 ∨ sharedS p.shown = 1 ∨ sharedS p.shown = 3
        unfold sharedS
        split
        · exact .inl rfl
        · split
          · exact .inr (.inl rfl)
          · omega
  · rw [if_neg hc]
    exact ⟨.inl rfl, .inl rfl⟩
theorem pidfL_len (q : Pr) : (pidfL q).length ≤ 11 := by
  have h1 : (actsP8 q.shown).length ≤ 2 := by unfold actsP8; split <;> simp
  have h2 : (contP8 q.sender q.prio).length ≤ 2 := by unfold contP8; split <;> simp
  have h3 : (noteP8 q.status).length ≤ 2 := by unfold noteP8; split <;> simp
  unfold pidfL headP8
  simp only [List.length_append, List.length_cons, List.length_nil]
  omega
theorem pidf_len (p : Pr) : (pidfT p).length ≤ 11 := by
  unfold pidfT
  split
  · exact pidfL_len _
  · simp
theorem wide_elem (d : Int) (sp nm : ByteArray) (es : List At) (h1 : -10 ≤ d ∧ d ≤ 10) (h2 : sp.size ≤ 1000) (h3 : nm.size ≤ 1000) : WideIt (elemI d sp nm es) :=
  ⟨⟨by show -9223372036854775808 ≤ d; omega, by show d ≤ _; omega⟩, by show (⟨#[]⟩ : ByteArray).size ≤ _; decide, by show sp.size ≤ _; omega, by show nm.size ≤ _; omega⟩
theorem wide_text (d : Int) (t : ByteArray) (h1 : -10 ≤ d ∧ d ≤ 10) (h2 : t.size ≤ 9223372036854775807) : WideIt (textI d t) :=
  ⟨⟨by show -9223372036854775808 ≤ d; omega, by show d ≤ _; omega⟩, h2, by show (⟨#[]⟩ : ByteArray).size ≤ _; decide, by show (⟨#[]⟩ : ByteArray).size ≤ _; decide⟩
theorem wide_pidfL (q : Pr) (h1 : q.sender.size ≤ 1000) (h2 : q.status.size ≤ 9223372036854775807) : ∀ x ∈ pidfL q, WideIt x := by
  have sp1 : pidfSp.size ≤ 1000 := by decide
  have sp2 : rpidSp.size ≤ 1000 := by decide
  intro x hx
  unfold pidfL at hx
  rw [List.mem_append, List.mem_append, List.mem_append] at hx
  rcases hx with ((hx | hx) | hx) | hx
  · unfold headP8 at hx
    simp only [List.mem_cons, List.not_mem_nil, or_false] at hx
    rcases hx with rfl | rfl | rfl | rfl | rfl
    · exact wide_elem _ _ _ _ (by omega) sp1 (by decide)
    · exact wide_elem _ _ _ _ (by omega) sp1 (by decide)
    · exact wide_elem _ _ _ _ (by omega) sp1 (by decide)
    · exact wide_elem _ _ _ _ (by omega) sp1 (by decide)
    · exact wide_text _ _ (by omega) (by unfold basicW; split <;> decide)
  · unfold actsP8 at hx
    split at hx
    · cases hx
    · simp only [List.mem_cons, List.not_mem_nil, or_false] at hx
      rcases hx with rfl | rfl
      · exact wide_elem _ _ _ _ (by omega) sp2 (by decide)
      · exact wide_elem _ _ _ _ (by omega) sp2 (by unfold actW; split <;> decide)
  · unfold contP8 at hx
    split at hx
    · cases hx
    · simp only [List.mem_cons, List.not_mem_nil, or_false] at hx
      rcases hx with rfl | rfl
      · exact wide_elem _ _ _ _ (by omega) sp1 (by decide)
      · exact wide_text _ _ (by omega) (by rw [ByteArray.size_append]; have : xmppP.size = 5 := rfl; omega)
  · unfold noteP8 at hx
    split at hx
    · cases hx
    · simp only [List.mem_cons, List.not_mem_nil, or_false] at hx
      rcases hx with rfl | rfl
      · exact wide_elem _ _ _ _ (by omega) sp1 (by decide)
      · exact wide_text _ _ (by omega) h2
theorem pidf_wide (p : Pr) (h : SmallPr p) (h0 : projCode p = 0) (i : Nat) (hi : i < (pidfT p).length) : WideIt ((pidfT p).getD i dIt) := by
  have e : pidfT p = pidfL (projT p) := by unfold pidfT projT; rw [if_pos h0, if_pos h0]
  have es : (projT p).status = p.status := by unfold projT; rw [if_pos h0]; rfl
  rw [e] at hi ⊢
  rw [List.getD_eq_getElem?_getD, List.getElem?_eq_getElem hi]
  exact wide_pidfL _ (projT_small h) (by rw [es]; have := h.texts; omega) _ (List.getElem_mem hi)
end Go.Proofs.YtppgdbejbhhjlaaGreatDoor

/- spec.PidfOf. -/
namespace Go.Proofs.YtppgdbejbhhjlaaGreatDoor
open Go.ChangeShapes Go.WideShapes Go.ChangeAt Go.RowKit
set_option linter.unusedVariables false

set_option maxRecDepth 100000 in
set_option maxHeartbeats 3200000 in
theorem specPidfOf_any (p : Pr) (a : Option Addr) (n c lo hi : Nat) (w : World) (hs : SmallPr p) (h : OwnIts w lo hi a n c p.more) :
    Calls Tryz.prog 39 #[.agg #[.int .i64 p.kind, .string p.sender, .string p.goal, .int .i64 p.shown, .string p.status, .int .i64 p.prio, .slice a n c]] w (TreeOwn w (projCode p) (pidfT p)) := by
  have P0 := Lib.hid ((PrAt.new w 26 p a n c).below (below1 _ (.cells #[.int .i64 0, .slice none 0 0] 29)))
  have K0 := Lib.hid (fun W (hb : Below w.heap.size w W) => specProjectionOf_any p a n c lo hi W hs (h.below hb))
  have hq := projT_small hs
  have HW := Lib.hid (fun h0 i hi => pidf_wide p hs h0 i hi)
  have HLN := Lib.hid (pidf_len p)
  unfold TreeOwn
  unfold PrrOwn at K0
  clear hs h
  by_cases hcd : projCode p = 0
  · have hpt : pidfT p = pidfL (projT p) := by unfold pidfT projT; rw [if_pos hcd, if_pos hcd]
    rw [hpt] at HW HLN ⊢
    rw [hcd] at K0 ⊢
    have HW := Lib.hid (fun i hi => HW.out hcd i hi)
    clear hpt
    clear hcd
    obtain ⟨pk, pf, pt, ps, pu, pp, pm⟩ := p
    generalize projT ⟨pk, pf, pt, ps, pu, pp, pm⟩ = q at K0 hq HW HLN ⊢
    have KT := Lib.hid (fun b o W (hP : PrOff W b o q) (ho : o ≤ 1000) => l8Tree_any b o q W hq ho hP)
    unfold GrewRes at KT
    generalize pidfL q = L at KT HW HLN ⊢
    obtain ⟨qk, qf, qt, qs, qu, qp, qm⟩ := q
    dsimp only at K0 P0 hq KT
    have d0 := P0.out.c0
    have d1 := P0.out.c1
    have d2 := P0.out.c2
    have d3 := P0.out.c3
    have d4 := P0.out.c4
    have d5 := P0.out.c5
    have d6 := P0.out.c6
    go_enter Tryz.func39, Tryz.ntmps39
    go_wp2_with fail
    refine (K0.out _ (below2 _ _ _)).mono ?_
    rintro e w1 ⟨a1, n1, c1, rfl, h1, hb⟩
    have HB1 := Lib.hid hb
    have hz1 := hb.size
    simp at hz1
    clear h1 d0 d1 d2 d3 d4 d5 d6 hb
    have hPO : PrOff (w1.alloc (.cells #[.int .i64 0, .int .i64 qk, .string qf, .string qt, .int .i64 qs, .string qu, .int .i64 qp, .slice a1 n1 c1] 33)) w1.heap.size 1 ⟨qk, qf, qt, qs, qu, qp, qm⟩ := ⟨by simp, by simp, by simp, by simp, by simp, by simp⟩
    go_wp2_with fail
    refine (KT.out w1.heap.size 1 _ hPO (by decide)).mono ?_
    rintro e w2 ⟨a2, n2, c2, A2, N2, C2, rfl, hg, hb2⟩
    have hlen := hg.len
    have hn2 : n2 ≤ 11 := by have := HLN.out; omega
    have own2 := Lib.hid (hg.own (by omega) (fun i hi => HW.out i (by omega)))
    have hb := below_then (below_then HB1.out (below1 w1 (.cells #[.int .i64 0, .int .i64 qk, .string qf, .string qt, .int .i64 qs, .string qu, .int .i64 qp, .slice a1 n1 c1] 33))) hb2
    obtain ⟨hc, hf⟩ := bcell hb
    have hz2 : w1.heap.size + 1 ≤ w2.heap.size := by have := hb2.size; simpa using this
    have HB := Lib.hid hb
    have hz := hb.size
    simp at hz
    clear hg hlen hb2 hb
    go_wp2
    refine bodyPost_ret (v := .agg #[.int .i64 0, .slice a2 n2 c2]) (by simp [results, Tryz.results39, go_sem, hc]) rfl ⟨_, _, _, rfl, ?_, ?_⟩
    · have st : ∀ (W : World) (i : Nat) (v : Value), OwnIts W (w1.heap.size + 1) w2.heap.size a2 n2 c2 L → OwnIts (W.setCell ⟨w.heap.size + 1, i, none⟩ v) (w1.heap.size + 1) w2.heap.size a2 n2 c2 L := fun W i v h =>
        h.only (Only.set (P := fun i => i = w.heap.size + 1) W ⟨w.heap.size + 1, i, none⟩ v rfl) fun i hlo hhi he => by omega
      have h0 := own2.out
      rw [show ∀ o, (w1.alloc o).heap.size = w1.heap.size + 1 from fun o => by simp] at h0
      exact (st _ 1 _ (st _ 0 _ h0)).mono (by omega) (by simp)
    · exact (((below_then (below2 w _ _) HB.out).setCell (by simp) _).setCell (by simp) _)
  · have hpt : pidfT p = [] := by unfold pidfT; rw [if_neg hcd]
    rw [hpt]
    generalize projCode p = cd at K0 hcd ⊢
    generalize projT p = q at K0
    have q1 : (cd != 0) = true := by rw [bne_iff_ne]; exact hcd
    clear hcd hpt HW HLN hq
    obtain ⟨pk, pf, pt, ps, pu, pp, pm⟩ := p
    obtain ⟨qk, qf, qt, qs, qu, qp, qm⟩ := q
    dsimp only at K0 P0
    have d0 := P0.out.c0
    have d1 := P0.out.c1
    have d2 := P0.out.c2
    have d3 := P0.out.c3
    have d4 := P0.out.c4
    have d5 := P0.out.c5
    have d6 := P0.out.c6
    go_enter Tryz.func39, Tryz.ntmps39
    go_wp2_with fail
    refine (K0.out _ (below2 _ _ _)).mono ?_
    rintro e w1 ⟨a1, n1, c1, rfl, h1, hb⟩
    have hb := below_then hb (below1 w1 (.cells #[.int .i64 cd, .int .i64 qk, .string qf, .string qt, .int .i64 qs, .string qu, .int .i64 qp, .slice a1 n1 c1] 33))
    obtain ⟨hc, hf⟩ := bcell hb
    have HB := Lib.hid hb
    have hz := hb.size
    simp at hz
    clear h1 d0 d1 d2 d3 d4 d5 d6 hb
    go_wp2
    refine bodyPost_ret (v := .agg #[.int .i64 cd, .slice none 0 0]) (by simp [results, Tryz.results39, go_sem, hc]) rfl ⟨_, _, _, rfl, ⟨rfl, by omega, fun i hi => by omega, .inl rfl⟩, ?_⟩
    exact (((below_then (below2 w _ _) HB.out).setCell (by simp) _).setCell (by simp) _)
end Go.Proofs.YtppgdbejbhhjlaaGreatDoor
