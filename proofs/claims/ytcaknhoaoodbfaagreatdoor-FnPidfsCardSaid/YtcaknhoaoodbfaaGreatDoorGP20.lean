/- spec.ProjectionOf. -/
import Derived.Test.YtcaknhoaoodbfaaGreatDoorGP18
import Derived.Test.YtcaknhoaoodbfaaGreatDoorGP19
import Derived.Test.YtcaknhoaoodbfaaGreatDoorGP0
import Derived.Test.YtcaknhoaoodbfaaGreatDoorGP14
import Derived.Test.YtcaknhoaoodbfaaGreatDoorGP15
import Derived.Test.YtcaknhoaoodbfaaGreatDoorGP1
import Derived.Test.YtcaknhoaoodbfaaGreatDoorGP16
import Derived.Test.YtcaknhoaoodbfaaGreatDoorGP7
import Derived.Test.YtcaknhoaoodbfaaGreatDoorGP13
import Derived.IntWalk
import Derived.Test.YtcaknhoaoodbfaaGreatDoorGP2
import Derived.Lib.AppendIntMem
namespace Go.Proofs.YtcaknhoaoodbfaaGreatDoor
open Go.ChangeShapes Go.WideShapes Go.ChangeAt Go.RowKit
set_option linter.unusedVariables false
set_option maxRecDepth 100000 in
set_option maxHeartbeats 3200000 in
theorem specProjectionOf_any (p : Pr) (a : Option Addr) (n c lo hi : Nat) (w : World) (hs : SmallPr p) (h : OwnIts w lo hi a n c p.more) :
    Calls Tryz.prog 37 #[.agg #[.int .i64 p.kind, .string p.sender, .string p.goal, .int .i64 p.shown, .string p.status, .int .i64 p.prio, .slice a n c]] w (PrrOwn w (projCode p) (projT p)) := by
  have P0 := Lib.hid ((PrAt.new w 26 p a n c).below (below1 _ (.cells #[.int .i64 0, .int .i64 0, .string ⟨#[]⟩, .string ⟨#[]⟩, .int .i64 0, .string ⟨#[]⟩, .int .i64 0, .slice none 0 0] 33)))
  have K0 := Lib.hid (fun W (hP : PrAt W w.heap.size p a n c) (hb : Below w.heap.size w W) => l8Asked_any w.heap.size p a n c W hs hP (h.its.below hb))
  have K1 := Lib.hid (fun W (hP : PrAt W w.heap.size p a n c) => l8Project_any w.heap.size p a n c W hP)
  unfold projT PrrOwn proj
  clear hs h
  by_cases hcd : projCode p = 0
  · rw [if_pos hcd, hcd]
    rw [hcd] at K0
    clear hcd
    obtain ⟨pk, pf, pt, ps, pu, pp, pm⟩ := p
    dsimp only at K0 K1 P0 ⊢
    generalize sharedS ps = ss at K1 ⊢
    generalize prioS pp = sp at K1 ⊢
    go_enter Tryz.func37, Tryz.ntmps37
    go_wp2_with fail
    refine (K0.out _ P0.out (below2 _ _ _)).mono ?_
    rintro e w1 ⟨rfl, hb⟩
    have P1 := Lib.hid (P0.out.below hb)
    have B1 := Lib.hid hb
    clear hb
    go_wp2_with fail
    refine (K1.out _ P1.out).mono ?_
    rintro e w2 ⟨rfl, hb2⟩
    have hb := below_then B1.out hb2
    obtain ⟨hc, hf⟩ := bcell hb
    have HB := Lib.hid hb
    have hz := hb.size
    simp at hz
    clear hb hb2
    go_wp2
    refine bodyPost_ret (v := .agg #[.int .i64 0, .int .i64 pk, .string pf, .string ByteArray.empty, .int .i64 ss, .string pu, .int .i64 sp, .slice none 0 0]) (by simp [results, Tryz.results37, go_sem, hc]) rfl ⟨_, _, _, rfl, OwnIts.nil _ _ _, ?_⟩
    exact (((((((((below_then (below2 w _ _) HB.out).setCell (by simp) _).setCell (by simp) _).setCell (by simp) _).setCell (by simp) _).setCell (by simp) _).setCell (by simp) _).setCell (by simp) _).setCell (by simp) _)
  · rw [if_neg hcd]
    unfold zeroPr
    generalize projCode p = cd at K0 hcd ⊢
    have q1 : (cd != 0) = true := by rw [bne_iff_ne]; exact hcd
    clear hcd
    obtain ⟨pk, pf, pt, ps, pu, pp, pm⟩ := p
    dsimp only at K0 P0 ⊢
    go_enter Tryz.func37, Tryz.ntmps37
    go_wp2_with fail
    refine (K0.out _ P0.out (below2 _ _ _)).mono ?_
    rintro e w1 ⟨rfl, hb⟩
    obtain ⟨hc, hf⟩ := bcell hb
    have HB := Lib.hid hb
    have hz := hb.size
    simp at hz
    clear hb
    go_wp2
    refine bodyPost_ret (v := .agg #[.int .i64 cd, .int .i64 0, .string ⟨#[]⟩, .string ⟨#[]⟩, .int .i64 0, .string ⟨#[]⟩, .int .i64 0, .slice none 0 0]) (by simp [results, Tryz.results37, go_sem, hc]) rfl ⟨_, _, _, rfl, OwnIts.nil _ _ _, ?_⟩
    exact (((((((((below_then (below2 w _ _) HB.out).setCell (by simp) _).setCell (by simp) _).setCell (by simp) _).setCell (by simp) _).setCell (by simp) _).setCell (by simp) _).setCell (by simp) _).setCell (by simp) _)
def TreeOwn (w : World) (cd : Int) (l : List It) (e : Ending) (w' : World) : Prop := ∃ a n c, e = .returned (.agg #[.int .i64 cd, .slice a n c]) ∧ OwnIts w' w.heap.size w'.heap.size a n c l ∧ Below w.heap.size w w'
theorem presCode_shown {p : Pr} (h : presCode p = 0) : 0 ≤ p.shown ∧ p.shown ≤ 4 := by
  unfold presCode at h
  split at h
  · omega
  · rename_i h1
    rw [Bool.not_eq_false, Bool.and_eq_true, Bool.and_eq_true] at h1
    simpa [inB] using h1.1.2
theorem projT_small {p : Pr} (h : SmallPr p) : (projT p).sender.size ≤ 1000 := by
  unfold projT
  by_cases hc : projCode p = 0
  · rw [if_pos hc]
    unfold projCode at hc
    show p.sender.size ≤ 1000
    split at hc
    · omega
    · split at hc
      · omega
      · split at hc
        · omega
        · omega
  · rw [if_neg hc]
    decide
theorem projT_good (p : Pr) : ((projT p).kind = 0 ∨ (projT p).kind = 1) ∧ ((projT p).shown = 0 ∨ (projT p).shown = 1 ∨ (projT p).shown = 3) := by
  unfold projT
  by_cases hc : projCode p = 0
  · rw [if_pos hc]
    unfold projCode at hc
    split at hc
    · omega
    · rename_i h1
      have h0 : presCode p = 0 := Decidable.not_not.1 h1
      have hk := presCode_kind h0
      have hs := presCode_shown h0
      split at hc
      · omega
      · rename_i h2
        have hk2 : ¬ 1 < p.kind := fun h => h2 (by unfold askB; rw [decide_eq_true h]; rfl)
        refine ⟨by show p.kind = 0 ∨ p.kind = 1; omega, ?_⟩
        show sharedS p.shown = 0 ∨ sharedS p.shown = 1 ∨ sharedS p.shown = 3
        unfold sharedS
        split
        · exact .inl rfl
        · split
          · exact .inr (.inl rfl)
          · omega
  · rw [if_neg hc]
    exact ⟨.inl rfl, .inl rfl⟩
theorem pidfL_len (q : Pr) : (pidfL q).length ≤ 11 := by
  have h1 : (actsP8 q.shown).length ≤ 2 := by unfold actsP8; split <;> simp
  have h2 : (contP8 q.sender q.prio).length ≤ 2 := by unfold contP8; split <;> simp
  have h3 : (noteP8 q.status).length ≤ 2 := by unfold noteP8; split <;> simp
  unfold pidfL headP8
  simp only [List.length_append, List.length_cons, List.length_nil]
  omega
theorem pidf_len (p : Pr) : (pidfT p).length ≤ 11 := by
  unfold pidfT
  split
  · exact pidfL_len _
  · simp
theorem wide_elem (d : Int) (sp nm : ByteArray) (es : List At) (h1 : -10 ≤ d ∧ d ≤ 10) (h2 : sp.size ≤ 1000) (h3 : nm.size ≤ 1000) : WideIt (elemI d sp nm es) :=
  ⟨⟨by show -9223372036854775808 ≤ d; omega, by show d ≤ _; omega⟩, by show (⟨#[]⟩ : ByteArray).size ≤ _; decide, by show sp.size ≤ _; omega, by show nm.size ≤ _; omega⟩
theorem wide_text (d : Int) (t : ByteArray) (h1 : -10 ≤ d ∧ d ≤ 10) (h2 : t.size ≤ 9223372036854775807) : WideIt (textI d t) :=
  ⟨⟨by show -9223372036854775808 ≤ d; omega, by show d ≤ _; omega⟩, h2, by show (⟨#[]⟩ : ByteArray).size ≤ _; decide, by show (⟨#[]⟩ : ByteArray).size ≤ _; decide⟩
theorem wide_pidfL (q : Pr) (h1 : q.sender.size ≤ 1000) (h2 : q.status.size ≤ 9223372036854775807) : ∀ x ∈ pidfL q, WideIt x := by
  have sp1 : pidfSp.size ≤ 1000 := by decide
  have sp2 : rpidSp.size ≤ 1000 := by decide
  intro x hx
  unfold pidfL at hx
  rw [List.mem_append, List.mem_append, List.mem_append] at hx
  rcases hx with ((hx | hx) | hx) | hx
  · unfold headP8 at hx
    simp only [List.mem_cons, List.not_mem_nil, or_false] at hx
    rcases hx with rfl | rfl | rfl | rfl | rfl
    · exact wide_elem _ _ _ _ (by omega) sp1 (by decide)
    · exact wide_elem _ _ _ _ (by omega) sp1 (by decide)
    · exact wide_elem _ _ _ _ (by omega) sp1 (by decide)
    · exact wide_elem _ _ _ _ (by omega) sp1 (by decide)
    · exact wide_text _ _ (by omega) (by unfold basicW; split <;> decide)
  · unfold actsP8 at hx
    split at hx
    · cases hx
    · simp only [List.mem_cons, List.not_mem_nil, or_false] at hx
      rcases hx with rfl | rfl
      · exact wide_elem _ _ _ _ (by omega) sp2 (by decide)
      · exact wide_elem _ _ _ _ (by omega) sp2 (by unfold actW; split <;> decide)
  · unfold contP8 at hx
    split at hx
    · cases hx
    · simp only [List.mem_cons, List.not_mem_nil, or_false] at hx
      rcases hx with rfl | rfl
      · exact wide_elem _ _ _ _ (by omega) sp1 (by decide)
      · exact wide_text _ _ (by omega) (by rw [ByteArray.size_append]; have : xmppP.size = 5 := rfl; omega)
  · unfold noteP8 at hx
    split at hx
    · cases hx
    · simp only [List.mem_cons, List.not_mem_nil, or_false] at hx
      rcases hx with rfl | rfl
      · exact wide_elem _ _ _ _ (by omega) sp1 (by decide)
      · exact wide_text _ _ (by omega) h2
theorem pidf_wide (p : Pr) (h : SmallPr p) (h0 : projCode p = 0) (i : Nat) (hi : i < (pidfT p).length) : WideIt ((pidfT p).getD i dIt) := by
  have e : pidfT p = pidfL (projT p) := by unfold pidfT projT; rw [if_pos h0, if_pos h0]
  have es : (projT p).status = p.status := by unfold projT; rw [if_pos h0]; rfl
  rw [e] at hi ⊢
  rw [List.getD_eq_getElem?_getD, List.getElem?_eq_getElem hi]
  exact wide_pidfL _ (projT_small h) (by rw [es]; have := h.texts; omega) _ (List.getElem_mem hi)
set_option maxRecDepth 100000 in
set_option maxHeartbeats 3200000 in
theorem specPidfOf_any (p : Pr) (a : Option Addr) (n c lo hi : Nat) (w : World) (hs : SmallPr p) (h : OwnIts w lo hi a n c p.more) :
    Calls Tryz.prog 36 #[.agg #[.int .i64 p.kind, .string p.sender, .string p.goal, .int .i64 p.shown, .string p.status, .int .i64 p.prio, .slice a n c]] w (TreeOwn w (projCode p) (pidfT p)) := by
  have P0 := Lib.hid ((PrAt.new w 26 p a n c).below (below1 _ (.cells #[.int .i64 0, .slice none 0 0] 29)))
  have K0 := Lib.hid (fun W (hb : Below w.heap.size w W) => specProjectionOf_any p a n c lo hi W hs (h.below hb))
  have hq := projT_small hs
  have HW := Lib.hid (fun h0 i hi => pidf_wide p hs h0 i hi)
  have HLN := Lib.hid (pidf_len p)
  unfold TreeOwn
  unfold PrrOwn at K0
  clear hs h
  by_cases hcd : projCode p = 0
  · have hpt : pidfT p = pidfL (projT p) := by unfold pidfT projT; rw [if_pos hcd, if_pos hcd]
    rw [hpt] at HW HLN ⊢
    rw [hcd] at K0 ⊢
    have HW := Lib.hid (fun i hi => HW.out hcd i hi)
    clear hpt
    clear hcd
    obtain ⟨pk, pf, pt, ps, pu, pp, pm⟩ := p
    generalize projT ⟨pk, pf, pt, ps, pu, pp, pm⟩ = q at K0 hq HW HLN ⊢
    have KT := Lib.hid (fun b o W (hP : PrOff W b o q) (ho : o ≤ 1000) => l8Tree_any b o q W hq ho hP)
    unfold GrewRes at KT
    generalize pidfL q = L at KT HW HLN ⊢
    obtain ⟨qk, qf, qt, qs, qu, qp, qm⟩ := q
    dsimp only at K0 P0 hq KT
    have d0 := P0.out.c0
    have d1 := P0.out.c1
    have d2 := P0.out.c2
    have d3 := P0.out.c3
    have d4 := P0.out.c4
    have d5 := P0.out.c5
    have d6 := P0.out.c6
    go_enter Tryz.func36, Tryz.ntmps36
    go_wp2_with fail
    refine (K0.out _ (below2 _ _ _)).mono ?_
    rintro e w1 ⟨a1, n1, c1, rfl, h1, hb⟩
    have HB1 := Lib.hid hb
    have hz1 := hb.size
    simp at hz1
    clear h1 d0 d1 d2 d3 d4 d5 d6 hb
    have hPO : PrOff (w1.alloc (.cells #[.int .i64 0, .int .i64 qk, .string qf, .string qt, .int .i64 qs, .string qu, .int .i64 qp, .slice a1 n1 c1] 33)) w1.heap.size 1 ⟨qk, qf, qt, qs, qu, qp, qm⟩ := ⟨by simp, by simp, by simp, by simp, by simp, by simp⟩
    go_wp2_with fail
    refine (KT.out w1.heap.size 1 _ hPO (by decide)).mono ?_
    rintro e w2 ⟨a2, n2, c2, A2, N2, C2, rfl, hg, hb2⟩
    have hlen := hg.len
    have hn2 : n2 ≤ 11 := by have := HLN.out; omega
    have own2 := Lib.hid (hg.own (by omega) (fun i hi => HW.out i (by omega)))
    have hb := below_then (below_then HB1.out (below1 w1 (.cells #[.int .i64 0, .int .i64 qk, .string qf, .string qt, .int .i64 qs, .string qu, .int .i64 qp, .slice a1 n1 c1] 33))) hb2
    obtain ⟨hc, hf⟩ := bcell hb
    have hz2 : w1.heap.size + 1 ≤ w2.heap.size := by have := hb2.size; simpa using this
    have HB := Lib.hid hb
    have hz := hb.size
    simp at hz
    clear hg hlen hb2 hb
    go_wp2
    refine bodyPost_ret (v := .agg #[.int .i64 0, .slice a2 n2 c2]) (by simp [results, Tryz.results36, go_sem, hc]) rfl ⟨_, _, _, rfl, ?_, ?_⟩
    · have st : ∀ (W : World) (i : Nat) (v : Value), OwnIts W (w1.heap.size + 1) w2.heap.size a2 n2 c2 L → OwnIts (W.setCell ⟨w.heap.size + 1, i, none⟩ v) (w1.heap.size + 1) w2.heap.size a2 n2 c2 L := fun W i v h =>
        h.only (Only.set (P := fun i => i = w.heap.size + 1) W ⟨w.heap.size + 1, i, none⟩ v rfl) fun i hlo hhi he => by omega
      have h0 := own2.out
      rw [show ∀ o, (w1.alloc o).heap.size = w1.heap.size + 1 from fun o => by simp] at h0
      exact (st _ 1 _ (st _ 0 _ h0)).mono (by omega) (by simp)
    · exact (((below_then (below2 w _ _) HB.out).setCell (by simp) _).setCell (by simp) _)
  · have hpt : pidfT p = [] := by unfold pidfT; rw [if_neg hcd]
    rw [hpt]
    generalize projCode p = cd at K0 hcd ⊢
    generalize projT p = q at K0
    have q1 : (cd != 0) = true := by rw [bne_iff_ne]; exact hcd
    clear hcd hpt HW HLN hq
    obtain ⟨pk, pf, pt, ps, pu, pp, pm⟩ := p
    obtain ⟨qk, qf, qt, qs, qu, qp, qm⟩ := q
    dsimp only at K0 P0
    have d0 := P0.out.c0
    have d1 := P0.out.c1
    have d2 := P0.out.c2
    have d3 := P0.out.c3
    have d4 := P0.out.c4
    have d5 := P0.out.c5
    have d6 := P0.out.c6
    go_enter Tryz.func36, Tryz.ntmps36
    go_wp2_with fail
    refine (K0.out _ (below2 _ _ _)).mono ?_
    rintro e w1 ⟨a1, n1, c1, rfl, h1, hb⟩
    have hb := below_then hb (below1 w1 (.cells #[.int .i64 cd, .int .i64 qk, .string qf, .string qt, .int .i64 qs, .string qu, .int .i64 qp, .slice a1 n1 c1] 33))
    obtain ⟨hc, hf⟩ := bcell hb
    have HB := Lib.hid hb
    have hz := hb.size
    simp at hz
    clear h1 d0 d1 d2 d3 d4 d5 d6 hb
    go_wp2
    refine bodyPost_ret (v := .agg #[.int .i64 cd, .slice none 0 0]) (by simp [results, Tryz.results36, go_sem, hc]) rfl ⟨_, _, _, rfl, ⟨rfl, by omega, fun i hi => by omega, .inl rfl⟩, ?_⟩
    exact (((below_then (below2 w _ _) HB.out).setCell (by simp) _).setCell (by simp) _)
def PidfGrow (w : World) (cd : Int) (l : List It) (e : Ending) (w' : World) : Prop := ∃ (a : Option Addr) (n c : Nat) (A : Nat → Option Addr) (N C : Nat → Nat), e = .returned (.agg #[.int .i64 cd, .slice a n c]) ∧ GrowIts w' w.heap.size (.slice a n c) n l A N C ∧ Below w.heap.size w w'
set_option maxRecDepth 100000 in
set_option maxHeartbeats 3200000 in
theorem specPidfG_any (p : Pr) (a : Option Addr) (n c lo hi : Nat) (w : World) (hs : SmallPr p) (h : OwnIts w lo hi a n c p.more) :
    Calls Tryz.prog 36 #[.agg #[.int .i64 p.kind, .string p.sender, .string p.goal, .int .i64 p.shown, .string p.status, .int .i64 p.prio, .slice a n c]] w (PidfGrow w (projCode p) (pidfT p)) := by
  have P0 := Lib.hid ((PrAt.new w 26 p a n c).below (below1 _ (.cells #[.int .i64 0, .slice none 0 0] 29)))
  have K0 := Lib.hid (fun W (hb : Below w.heap.size w W) => specProjectionOf_any p a n c lo hi W hs (h.below hb))
  have hq := projT_small hs
  have HW := Lib.hid (fun h0 i hi => pidf_wide p hs h0 i hi)
  have HLN := Lib.hid (pidf_len p)
  unfold PidfGrow
  unfold PrrOwn at K0
  clear hs h
  by_cases hcd : projCode p = 0
  · have hpt : pidfT p = pidfL (projT p) := by unfold pidfT projT; rw [if_pos hcd, if_pos hcd]
    rw [hpt] at HW HLN ⊢
    rw [hcd] at K0 ⊢
    have HW := Lib.hid (fun i hi => HW.out hcd i hi)
    clear hpt
    clear hcd
    obtain ⟨pk, pf, pt, ps, pu, pp, pm⟩ := p
    generalize projT ⟨pk, pf, pt, ps, pu, pp, pm⟩ = q at K0 hq HW HLN ⊢
    have KT := Lib.hid (fun b o W (hP : PrOff W b o q) (ho : o ≤ 1000) => l8Tree_any b o q W hq ho hP)
    unfold GrewRes at KT
    generalize pidfL q = L at KT HW HLN ⊢
    obtain ⟨qk, qf, qt, qs, qu, qp, qm⟩ := q
    dsimp only at K0 P0 hq KT
    have d0 := P0.out.c0
    have d1 := P0.out.c1
    have d2 := P0.out.c2
    have d3 := P0.out.c3
    have d4 := P0.out.c4
    have d5 := P0.out.c5
    have d6 := P0.out.c6
    go_enter Tryz.func36, Tryz.ntmps36
    go_wp2_with fail
    refine (K0.out _ (below2 _ _ _)).mono ?_
    rintro e w1 ⟨a1, n1, c1, rfl, h1, hb⟩
    have HB1 := Lib.hid hb
    have hz1 := hb.size
    simp at hz1
    clear h1 d0 d1 d2 d3 d4 d5 d6 hb
    have hPO : PrOff (w1.alloc (.cells #[.int .i64 0, .int .i64 qk, .string qf, .string qt, .int .i64 qs, .string qu, .int .i64 qp, .slice a1 n1 c1] 33)) w1.heap.size 1 ⟨qk, qf, qt, qs, qu, qp, qm⟩ := ⟨by simp, by simp, by simp, by simp, by simp, by simp⟩
    go_wp2_with fail
    refine (KT.out w1.heap.size 1 _ hPO (by decide)).mono ?_
    rintro e w2 ⟨a2, n2, c2, A2, N2, C2, rfl, hg, hb2⟩
    have hlen := hg.len
    have hn2 : n2 ≤ 11 := by have := HLN.out; omega
    have HG2 := Lib.hid hg
    have hb := below_then (below_then HB1.out (below1 w1 (.cells #[.int .i64 0, .int .i64 qk, .string qf, .string qt, .int .i64 qs, .string qu, .int .i64 qp, .slice a1 n1 c1] 33))) hb2
    obtain ⟨hc, hf⟩ := bcell hb
    have hz2 : w1.heap.size + 1 ≤ w2.heap.size := by have := hb2.size; simpa using this
    have HB := Lib.hid hb
    have hz := hb.size
    simp at hz
    clear hg hlen hb2 hb
    go_wp2
    refine bodyPost_ret (v := .agg #[.int .i64 0, .slice a2 n2 c2]) (by simp [results, Tryz.results36, go_sem, hc]) rfl ⟨a2, n2, c2, A2, N2, C2, rfl, ?_, ?_⟩
    · have h0 := HG2.out
      rw [show ∀ o, (w1.alloc o).heap.size = w1.heap.size + 1 from fun o => by simp] at h0
      have st : ∀ (W : World) (i : Nat) (v : Value), GrowIts W (w1.heap.size + 1) (.slice a2 n2 c2) n2 L A2 N2 C2 → GrowIts (W.setCell ⟨w.heap.size + 1, i, none⟩ v) (w1.heap.size + 1) (.slice a2 n2 c2) n2 L A2 N2 C2 := fun W i v h =>
        h.onlyP (Only.set (P := fun i => i = w.heap.size + 1) W ⟨w.heap.size + 1, i, none⟩ v rfl) fun i hlo hhi he => by omega
      exact (st _ 1 _ (st _ 0 _ h0)).base (by omega)
    · exact (((below_then (below2 w _ _) HB.out).setCell (by simp) _).setCell (by simp) _)
  · have hpt : pidfT p = [] := by unfold pidfT; rw [if_neg hcd]
    rw [hpt]
    generalize projCode p = cd at K0 hcd ⊢
    generalize projT p = q at K0
    have q1 : (cd != 0) = true := by rw [bne_iff_ne]; exact hcd
    clear hcd hpt HW HLN hq
    obtain ⟨pk, pf, pt, ps, pu, pp, pm⟩ := p
    obtain ⟨qk, qf, qt, qs, qu, qp, qm⟩ := q
    dsimp only at K0 P0
    have d0 := P0.out.c0
    have d1 := P0.out.c1
    have d2 := P0.out.c2
    have d3 := P0.out.c3
    have d4 := P0.out.c4
    have d5 := P0.out.c5
    have d6 := P0.out.c6
    go_enter Tryz.func36, Tryz.ntmps36
    go_wp2_with fail
    refine (K0.out _ (below2 _ _ _)).mono ?_
    rintro e w1 ⟨a1, n1, c1, rfl, h1, hb⟩
    have hb := below_then hb (below1 w1 (.cells #[.int .i64 cd, .int .i64 qk, .string qf, .string qt, .int .i64 qs, .string qu, .int .i64 qp, .slice a1 n1 c1] 33))
    obtain ⟨hc, hf⟩ := bcell hb
    have HB := Lib.hid hb
    have hz := hb.size
    simp at hz
    clear h1 d0 d1 d2 d3 d4 d5 d6 hb
    go_wp2
    refine bodyPost_ret (v := .agg #[.int .i64 cd, .slice none 0 0]) (by simp [results, Tryz.results36, go_sem, hc]) rfl ⟨none, 0, 0, fun _ => none, fun _ => 0, fun _ => 0, rfl, ⟨World.ownsRow_nil _ _ _ _, fun i hi => by simp at hi, fun i hi => by simp at hi, fun i j hi => by simp at hi⟩, ?_⟩
    exact (((below_then (below2 w _ _) HB.out).setCell (by simp) _).setCell (by simp) _)
set_option linter.unusedSimpArgs false
structure Mid (x : It) : Prop where
  depth : -10 ≤ x.depth ∧ x.depth ≤ 10
  sizes : x.text.size ≤ 200 ∧ x.space.size ≤ 200 ∧ x.name.size ≤ 200
  few : x.attrs.length ≤ 10
  short : ∀ i, (x.attrs.getD i dAt).name.size ≤ 200 ∧ (x.attrs.getD i dAt).value.size ≤ 200
theorem DrawnIt.mid {x : It} (h : DrawnIt x) : Mid x := ⟨by have := h.depth; omega, by have := h.sizes; omega, by have := h.few; omega, fun i => by have := h.short i; omega⟩
theorem dIt_mid : Mid dIt := dIt_drawn.mid
def Mids (l : List It) : Prop := l.length ≤ 60 ∧ ∀ i, Mid (l.getD i dIt)
theorem mids_of {l : List It} (hl : l.length ≤ 60) (h : ∀ x ∈ l, DrawnIt x) : Mids l := ⟨hl, fun i => by
  rw [List.getD_eq_getElem?_getD]
  by_cases hi : i < l.length
  · rw [List.getElem?_eq_getElem hi]
    exact (h _ (List.getElem_mem hi)).mid
  · rw [List.getElem?_eq_none (by omega)]
    exact dIt_mid⟩
theorem mids_set {l : List It} (h : Mids l) {r : Nat} {y : It} (hy : Mid y) : Mids (l.set r y) := ⟨by rw [List.length_set]; exact h.1, fun i => by
  rw [List.getD_eq_getElem?_getD, List.getElem?_set]
  by_cases e : r = i
  · rw [if_pos e]
    split
    · exact hy
    · exact dIt_mid
  · rw [if_neg e, ← List.getD_eq_getElem?_getD]
    exact h.2 i⟩
theorem mids_app {l l2 : List It} (h : Mids l) (h2 : ∀ x ∈ l2, DrawnIt x) (hl : l.length + l2.length ≤ 60) : Mids (l ++ l2) := ⟨by rw [List.length_append]; exact hl, fun i => by
  rw [List.getD_eq_getElem?_getD]
  by_cases hi : i < l.length
  · rw [List.getElem?_append_left hi, ← List.getD_eq_getElem?_getD]
    exact h.2 i
  · rw [List.getElem?_append_right (by omega), ← List.getD_eq_getElem?_getD]
    exact (mids_of (l := l2) (by omega) h2).2 _⟩
theorem Mids.small {l : List It} (h : Mids l) : SmallIts l := ⟨by have := h.1; omega, fun i _ => by
  have := h.2 i
  exact ⟨by have := this.sizes; omega, by have := this.few; omega, fun j _ => by have := this.short j; unfold SmallAt; omega⟩⟩
theorem Mids.wide {l : List It} (h : Mids l) (n : Nat) : ∀ i, i < n → (-9223372036854775808 ≤ (l.getD i dIt).depth ∧ (l.getD i dIt).depth ≤ 9223372036854775807) ∧ ((l.getD i dIt).text.size ≤ 9223372036854775807 ∧ (l.getD i dIt).space.size ≤ 9223372036854775807 ∧ (l.getD i dIt).name.size ≤ 9223372036854775807) := fun i _ => by
  have := h.2 i
  exact ⟨⟨by have := this.depth; omega, by have := this.depth; omega⟩, by have := this.sizes; omega, by have := this.sizes; omega, by have := this.sizes; omega⟩
theorem Mids.own {W : World} {B : Nat} {a : Option Addr} {n c : Nat} {l : List It} {A : Nat → Option Addr} {N C : Nat → Nat} (h : Mids l) (hg : GrowIts W B (.slice a n c) n l A N C) : OwnIts W B W.heap.size a n c l := hg.own (by have := hg.len; have := h.1; omega) (h.wide n)
theorem flatI_attrs {l : List It} {A : Nat → Option Addr} {N C : Nat → Nat} {r : Nat} {y : It} (hr : r < l.length) (h0 : y.depth = (l.getD r dIt).depth) (h1 : y.text = (l.getD r dIt).text) (h2 : y.space = (l.getD r dIt).space) (h3 : y.name = (l.getD r dIt).name) : flatI (l.set r y) A N C = flatI l A N C := by
  apply List.ext_getElem?
  intro j
  have hl : (l.set r y).length = l.length := List.length_set ..
  by_cases hj : j < l.length * 5
  · rw [flatI_get _ _ _ _ _ (by rw [hl]; exact hj), flatI_get _ _ _ _ _ hj]
    obtain ⟨i, q, hq, rfl⟩ : ∃ i q, q < 5 ∧ j = i * 5 + q := ⟨j / 5, j % 5, by omega, by omega⟩
    rw [cellI_five i q hq, cellI_five i q hq]
    by_cases ei : r = i
    · subst ei
      have g : (l.set r y).getD r dIt = y := by rw [List.getD_eq_getElem?_getD, List.getElem?_set, if_pos rfl, if_pos hr]; rfl
      rw [g, h0, h1, h2, h3]
    · have g : (l.set r y).getD i dIt = l.getD i dIt := by rw [List.getD_eq_getElem?_getD, List.getElem?_set, if_neg ei, ← List.getD_eq_getElem?_getD]
      rw [g]
  · rw [List.getElem?_eq_none (by rw [flatI_length, hl]; omega), List.getElem?_eq_none (by rw [flatI_length]; omega)]
theorem GrowIts.putVal {w : World} {B g n c : Nat} {l : List It} {A : Nat → Option Addr} {N C : Nat → Nat} (h : GrowIts w B (.slice (some ⟨g, 0, none⟩) n c) n l A N C) {r ga : Nat} (hr : r < n) (hA : A r = some ⟨ga, 0, none⟩) (hN : N r ≠ 0) {v : ByteArray} (hv : v.size ≤ 200) :
    GrowIts (w.setCell ⟨ga, 1, none⟩ (.string v)) B (.slice (some ⟨g, 0, none⟩) n c) n (l.set r ⟨(l.getD r dIt).depth, (l.getD r dIt).text, (l.getD r dIt).space, (l.getD r dIt).name, (l.getD r dIt).attrs.set 0 ⟨((l.getD r dIt).attrs.getD 0 dAt).name, v⟩⟩) A N C := by
  have hlen := h.len
  have hap := h.apart r (by omega) _ hA hN
  have ho : Only (fun i => i = ga) w (w.setCell ⟨ga, 1, none⟩ (.string v)) := Only.set w _ _ rfl
  refine ⟨?_, fun i hi => ?_, fun i hi => ?_, fun i j hi hj => ?_⟩
  · rw [flatI_attrs (l := l) (r := r) (y := ⟨(l.getD r dIt).depth, (l.getD r dIt).text, (l.getD r dIt).space, (l.getD r dIt).name, (l.getD r dIt).attrs.set 0 ⟨((l.getD r dIt).attrs.getD 0 dAt).name, v⟩⟩) (by omega) rfl rfl rfl rfl]
    exact owns_only h.row ho fun q hq hp => hap (by rw [hq, hp])
  · rw [List.length_set] at hi
    by_cases e : i = r
    · subst e
      have hx : ((l.set i ⟨(l.getD i dIt).depth, (l.getD i dIt).text, (l.getD i dIt).space, (l.getD i dIt).name, (l.getD i dIt).attrs.set 0 ⟨((l.getD i dIt).attrs.getD 0 dAt).name, v⟩⟩).getD i dIt).attrs = (l.getD i dIt).attrs.set 0 ⟨((l.getD i dIt).attrs.getD 0 dAt).name, v⟩ := by rw [List.getD_eq_getElem?_getD, List.getElem?_set_self (by omega)]; rfl
      rw [hx]
      have h0 := h.ats i hi
      obtain ⟨b, hb, g1, g2, g3⟩ := h0.1.own.resolve_left hN
      rw [hA] at hb
      simp only [Option.some.injEq, Addr.mk.injEq, and_true] at hb
      subst hb
      have hsz : (w.setCell ⟨ga, 1, none⟩ (.string v)).heap.size = w.heap.size := by simp
      refine ⟨⟨⟨by rw [List.length_set]; exact h0.1.ats.len, h0.1.ats.max, fun j => ?_, .inr ?_⟩, .inr ⟨ga, hA, g1, by omega, g3.set _ _⟩⟩, h0.2⟩
      · have hj := h0.1.ats.size j
        rw [List.getD_eq_getElem?_getD, List.getElem?_set]
        by_cases e : 0 = j
        · subst e
          rw [if_pos rfl, if_pos (by have := h0.1.ats.len; omega)]
          exact ⟨(h0.1.ats.size 0).1, by show v.size ≤ _; omega⟩
        · rw [if_neg e, ← List.getD_eq_getElem?_getD]
          exact hj
      · obtain ⟨b', o', hb', hlt, hc⟩ := h0.1.ats.row.resolve_left hN
        rw [hA] at hb'
        simp only [Option.some.injEq, Addr.mk.injEq, and_true] at hb'
        obtain ⟨rfl, rfl⟩ := hb'
        refine ⟨ga, 0, hA, by omega, fun j hj => ?_⟩
        have hcj := hc j hj
        rw [List.getD_eq_getElem?_getD, List.getElem?_set]
        by_cases e : 0 = j
        · subst e
          rw [if_pos rfl, if_pos (by have := h0.1.ats.len; omega)]
          refine ⟨?_, ?_⟩
          · rw [set_off (by omega)]
            exact hcj.1
          · exact World.cell?_setCell_same _ _ _ hcj.2
        · rw [if_neg e, ← List.getD_eq_getElem?_getD, set_off (by omega), set_off (by omega)]
          exact hcj
    · have hx : (l.set r ⟨(l.getD r dIt).depth, (l.getD r dIt).text, (l.getD r dIt).space, (l.getD r dIt).name, (l.getD r dIt).attrs.set 0 ⟨((l.getD r dIt).attrs.getD 0 dAt).name, v⟩⟩).getD i dIt = l.getD i dIt := by rw [List.getD_eq_getElem?_getD, List.getElem?_set_ne (by omega), ← List.getD_eq_getElem?_getD]
      rw [hx]
      have h1 := (h.ats i hi).1.only ho fun x hx hxn hp => h.each i r hi (by omega) e x _ hx hA hxn hN hp
      exact ⟨⟨h1.ats, h1.own.imp id fun ⟨b, g1, g2, g3, g4⟩ => ⟨b, g1, g2, by have := ho.size; omega, g4⟩⟩, (h.ats i hi).2⟩
  · rw [List.length_set] at hi
    exact h.apart i hi
  · rw [List.length_set] at hi hj
    exact h.each i j hi hj
set_option maxHeartbeats 800000 in
theorem implThousandthsOf_any (n : Int) (w : World) : Calls Tryz.prog 203 #[.int .i64 n] w (Res2 w (thouCode n) (thouVal n)) := by
  unfold thouCode thouVal
  cases h : inB n 0 127
  · have hb : n < 0 ∨ 127 < n := by
      have : ¬ (0 ≤ n ∧ n ≤ 127) := by simpa [inB] using h
      omega
    clear h
    rcases hb with h | h
    · go_enter Tryz.func203, Tryz.ntmps203
      go_wp2
      exact bodyPost_ret (v := .agg #[.int .i64 3, .int .i64 0]) (by simp [results, Tryz.results203, go_sem]) rfl ⟨rfl, below1 w _⟩
    · have h0 : 0 ≤ n := by omega
      go_enter Tryz.func203, Tryz.ntmps203
      go_wp2
      exact bodyPost_ret (v := .agg #[.int .i64 3, .int .i64 0]) (by simp [results, Tryz.results203, go_sem]) rfl ⟨rfl, below1 w _⟩
  · have hb : 0 ≤ n ∧ n ≤ 127 := by simpa [inB] using h
    obtain ⟨h0, h1⟩ := hb
    have k1 : IntKind.i64.wrap (1000 * n) = 1000 * n := IntWalk.i64_in _ (by omega)
    have k2 : IntKind.i64.wrap (1000 * n + 63) = 1000 * n + 63 := IntWalk.i64_in _ (by omega)
    have k3 : (1000 * n + 63).tdiv 127 = (1000 * n + 63) / 127 := Int.tdiv_eq_ediv_of_nonneg (by omega)
    have k4 : IntKind.i64.wrap ((1000 * n + 63) / 127) = (1000 * n + 63) / 127 := IntWalk.i64_in _ (by omega)
    simp only [if_true]
    clear h
    go_enter Tryz.func203, Tryz.ntmps203
    go_wp2
    exact bodyPost_ret (v := .agg #[.int .i64 0, .int .i64 ((1000 * n + 63) / 127)]) (by simp [results, Tryz.results203, go_sem]) rfl ⟨rfl, below1 w _⟩
set_option maxHeartbeats 400000 in
theorem isShare_any (n : Int) (w : World) :
    Calls Tryz.prog 226 #[.int .i64 n] w fun e w' => e = .returned (.bool (inB n 0 1000)) ∧ w' = w := by
  by_cases h1 : 0 ≤ n
  · by_cases h2 : n ≤ 1000
    · go_enter Tryz.func226, Tryz.ntmps226
      go_wp2
      go_ret
      exact ⟨ret_bool (by simp [inB, h1, h2]), rfl⟩
    · go_enter Tryz.func226, Tryz.ntmps226
      go_wp2
      go_ret
      exact ⟨ret_bool (by simp [inB, h1, h2]), rfl⟩
  · go_enter Tryz.func226, Tryz.ntmps226
    go_wp2
    go_ret
    exact ⟨ret_bool (by simp [inB]; omega), rfl⟩
end Go.Proofs.YtcaknhoaoodbfaaGreatDoor
namespace Go.Proofs.YtcaknhoaoodbfaaGreatDoor
open Go.ChangeShapes Go.WideShapes Go.ChangeAt Go.RowKit Go.Shelf
set_option linter.unusedVariables false
def Pows (w : World) : Prop := Lib.TabIs Tryz.prog w "internal/strconv.uint64pow10" .u64 Lib.pow10Tab
theorem Pows.below {w w' : World} (h : Pows w) (hb : Below w.heap.size w w') : Pows w' := Lib.tabBelow_of_tabIs h w' hb
theorem decDigits_digT (n : Nat) : Lib.decDigits n = (digT n).data.toList := by
  induction n using Nat.strongRecOn with
  | ind n ih =>
    by_cases h : n < 10
    · rw [Lib.decDigits, dif_pos h, digT_small h, dig_data n h]
    · rw [Lib.decDigits, dif_neg h, digT_data h, ih (n / 10) (by omega)]
theorem itoa_digT (n : Nat) : (⟨(Lib.itoa (n : Int)).toArray⟩ : ByteArray) = digT n := by
  apply ByteArray.ext
  apply Array.toList_inj.1
  rw [List.toList_toArray]
  unfold Lib.itoa
  rw [if_neg (by omega), decDigits_digT, show ((n : Int)).toNat = n by omega]
end Go.Proofs.YtcaknhoaoodbfaaGreatDoor
namespace Go.Proofs.YtcaknhoaoodbfaaGreatDoor
open Go.ChangeShapes Go.WideShapes Go.ChangeAt Go.RowKit
set_option linter.unusedVariables false
def TxtRes (w : World) (c : Int) (s : ByteArray) (e : Ending) (w' : World) : Prop := e = .returned (.agg #[.int .i64 c, .string s]) ∧ Below w.heap.size w w'
end Go.Proofs.YtcaknhoaoodbfaaGreatDoor
namespace Go.Proofs.YtcaknhoaoodbfaaGreatDoor
open Go.ChangeShapes Go.WideShapes Go.ChangeAt Go.RowKit Go.Shelf
set_option linter.unusedVariables false
set_option maxRecDepth 100000 in
set_option maxHeartbeats 1600000 in
theorem implShareText_any (n : Int) (w : World) (hT : Pows w) : Calls Tryz.prog 202 #[.int .i64 n] w (TxtRes w (shareCode n) (shareText n)) := by
  unfold shareCode shareText
  cases h : inB n 0 1000
  · clear hT
    go_enter Tryz.func202, Tryz.ntmps202
    go_wp2_with fail
    refine (isShare_any _ _).mono ?_
    rw [h]
    rintro e w1 ⟨rfl, rfl⟩
    go_wp2
    exact bodyPost_ret (v := .agg #[.int .i64 3, .string _]) (by simp [results, Tryz.results202, go_sem]; rfl) rfl ⟨rfl, below1 w _⟩
  · have hb : 0 ≤ n ∧ n ≤ 1000 := by simpa [inB] using h
    obtain ⟨m, rfl⟩ : ∃ m : Nat, n = (m : Int) := ⟨n.toNat, by omega⟩
    have hm : m ≤ 1000 := by omega
    have KF : ∀ (k : Nat) W, k ≤ 2000 → Pows W → Calls Tryz.prog 181 #[.int .i64 k, .int .i64 10] W fun e w' => e = .returned (.string (digT k)) ∧ Below W.heap.size W w' := by
      intro k W hk hW
      refine (Tryz.strconv_FormatInt_10 k (by omega) (by omega) W hW).mono ?_
      rintro e w' ⟨rfl, kk, os, rfl⟩
      refine ⟨?_, Lib.below_grow _ _ (Nat.le_refl _) _ _⟩
      rw [itoa_digT]
    have K1 := Lib.hid (fun W hW => KF (1000 + m) W (by omega) hW)
    have K2 := Lib.hid (fun W hW => KF (m / 1000) W (by omega) hW)
    have e1 : ((1000 + m : Nat) : Int) = 1000 + (m : Int) := by omega
    have e2 : ((m / 1000 : Nat) : Int) = (m : Int) / 1000 := by omega
    rw [e1] at K1
    rw [e2] at K2
    have HT := Lib.hid (fun W (hb : Below w.heap.size w W) => hT.below hb)
    have s1 := digT_size19 (n := m / 1000) (by omega)
    have s2 := digT_size19 (n := 1000 + m) (by omega)
    have s3 := digT_pos (1000 + m)
    have HX : Hid (shareT (m : Int).toNat = digT (m / 1000) ++ ⟨#[46]⟩ ++ behindT (digT (1000 + m))) := Lib.hid (by
      unfold shareT
      rw [show (m : Int).toNat = m by omega, behind_share m hm])
    simp only [if_true]
    generalize shareT (m : Int).toNat = tx at HX ⊢
    generalize digT (m / 1000) = t1 at *
    generalize digT (1000 + m) = t2 at *
    have s4 : (behindT t2).size ≤ 18 := by unfold behindT; rw [ByteArray.size_extract]; omega
    have e3 : t2.extract 1 t2.size = behindT t2 := rfl
    have HE := Lib.hid e3
    generalize behindT t2 = t3 at *
    have k1 : IntKind.i64.wrap ((m : Int) / 1000) = (m : Int) / 1000 := IntWalk.i64_in _ (by omega)
    have k2 : (m : Int).tdiv 1000 = (m : Int) / 1000 := Int.tdiv_eq_ediv_of_nonneg (by omega)
    have k3 : IntKind.i64.wrap (1000 + (m : Int)) = 1000 + (m : Int) := IntWalk.i64_in _ (by omega)
    have k5 : (1 : Int) ≤ (t2.size : Int) := by omega
    have k6 : ((t2.size : Int)).toNat = t2.size := by omega
    clear e1 e2 KF hT
    go_enter Tryz.func202, Tryz.ntmps202
    go_wp2_with fail
    refine (isShare_any _ _).mono ?_
    rw [h]
    rintro e w1 ⟨rfl, rfl⟩
    clear h
    go_wp2_with fail
    refine (K1.out _ (HT.out _ (below1 _ _))).mono ?_
    rintro e w2 ⟨rfl, hb2⟩
    have B2 := Lib.hid (below_then (below1 w _) hb2)
    have C2 := Lib.hid hb2
    clear hb2
    go_wp2_with fail
    first | (go_region_with (go_at_call 181; refine (K2.out _ ?_).mono ?_; exact HT.out _ B2.out.drew; rintro e w3 ⟨rfl, hb3⟩; have C3 := below_then C2.out (below_of_drew hb3); obtain ⟨hc, hf⟩ := bcell C3; have HB := Lib.hid C3; have hz := C3.size; simp at hz; clear hb3 C3)) | fail
    all_goals
      go_wp2
      exact bodyPost_ret (v := .agg #[.int .i64 0, .string _]) (by simp [results, Tryz.results202, go_sem, hc]; rfl) rfl ⟨by rw [HX.out], (((below1 w _).trans (HB.out.mono (by simp))).setCell (by simp) _).setCell (by simp) _⟩
end Go.Proofs.YtcaknhoaoodbfaaGreatDoor
namespace Go.Proofs.YtcaknhoaoodbfaaGreatDoor
open Go.ChangeShapes Go.WideShapes Go.ChangeAt Go.RowKit
set_option linter.unusedVariables false
theorem field_code (c : Int) (t : ByteArray) (W : World) : (Instr.field 42 (.agg #[.int .i64 c, .string t]) 0).run Tryz.prog W = .ok (.int .i64 c) W := by kernel_rfl
theorem field_text (c : Int) (t : ByteArray) (W : World) : (Instr.field 42 (.agg #[.int .i64 c, .string t]) 1).run Tryz.prog W = .ok (.string t) W := by kernel_rfl
end Go.Proofs.YtcaknhoaoodbfaaGreatDoor
