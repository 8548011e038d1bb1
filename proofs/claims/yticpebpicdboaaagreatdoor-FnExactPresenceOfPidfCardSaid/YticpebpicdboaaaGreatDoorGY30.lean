/- spec.ProjectionOf. -/
import Derived.Test.YticpebpicdboaaaGreatDoorGY29
import Derived.Test.YticpebpicdboaaaGreatDoorGY10
import Derived.Test.YticpebpicdboaaaGreatDoorGY27
import Derived.Test.YticpebpicdboaaaGreatDoorGY14
import Derived.Test.YticpebpicdboaaaGreatDoorGY2
namespace Go.Proofs.YticpebpicdboaaaGreatDoor
open Go.ChangeShapes Go.WideShapes Go.ChangeAt Go.RowKit
set_option linter.unusedVariables false

set_option maxRecDepth 100000 in
set_option maxHeartbeats 3200000 in
theorem specProjectionOf_any (p : Pr) (a : Option Addr) (n c lo hi : Nat) (w : World) (hs : SmallPr p) (h : OwnIts w lo hi a n c p.more) :
    Calls Tryz.prog 40 #[.agg #[.int .i64 p.kind, .string p.sender, .string p.goal, .int .i64 p.shown, .string p.status, .int .i64 p.prio, .slice a n c]] w (PrrOwn w (projCode p) (projT p)) := by
  have P0 := Lib.hid ((PrAt.new w 26 p a n c).below (below1 _ (.cells #[.int .i64 0, .int .i64 0, .string ⟨#[]⟩, .string ⟨#[]⟩, .int .i64 0, .string ⟨#[]⟩, .int .i64 0, .slice none 0 0] 33)))
  have K0 := Lib.hid (fun W (hP : PrAt W w.heap.size p a n c) (hb : Below w.heap.size w W) => l8Asked_any w.heap.size p a n c W hs hP (h.its.below hb))
  have K1 := Lib.hid (fun W (hP : PrAt W w.heap.size p a n c) => l8Project_any w.heap.size p a n c W hP)
  unfold projT PrrOwn proj
  clear hs h
  by_cases hcd : projCode p = 0
  · rw [if_pos hcd, hcd]
    rw [hcd] at K0
    clear hcd
    obtain ⟨pk, pf, pt, ps, pu, pp, pm⟩ := p
    dsimp only at K0 K1 P0 ⊢
    generalize sharedS ps = ss at K1 ⊢
    generalize prioS pp = sp at K1 ⊢
    go_enter Tryz.func40, Tryz.ntmps40
    go_wp2_with fail
    refine (K0.out _ P0.out (below2 _ _ _)).mono ?_
    rintro e w1 ⟨rfl, hb⟩
    have P1 := Lib.hid (P0.out.below hb)
    have B1 := Lib.hid hb
    clear hb
    go_wp2_with fail
    refine (K1.out _ P1.out).mono ?_
    rintro e w2 ⟨rfl, hb2⟩
    have hb := below_then B1.out hb2
    obtain ⟨hc, hf⟩ := bcell hb
    have HB := Lib.hid hb
    have hz := hb.size
    simp at hz
    clear hb hb2
    go_wp2
    refine bodyPost_ret (v := .agg #[.int .i64 0, .int .i64 pk, .string pf, .string ByteArray.empty, .int .i64 ss, .string pu, .int .i64 sp, .slice none 0 0]) (by simp [results, Tryz.results40, go_sem, hc]) rfl ⟨_, _, _, rfl, OwnIts.nil _ _ _, ?_⟩
    exact (((((((((below_then (below2 w _ _) HB.out).setCell (by simp) _).setCell (by simp) _).setCell (by simp) _).setCell (by simp) _).setCell (by simp) _).setCell (by simp) _).setCell (by simp) _).setCell (by simp) _)
  · rw [if_neg hcd]
    unfold zeroPr
    generalize projCode p = cd at K0 hcd ⊢
    have q1 : (cd != 0) = true := by rw [bne_iff_ne]; exact hcd
    clear hcd
    obtain ⟨pk, pf, pt, ps, pu, pp, pm⟩ := p
    dsimp only at K0 P0 ⊢
    go_enter Tryz.func40, Tryz.ntmps40
    go_wp2_with fail
    refine (K0.out _ P0.out (below2 _ _ _)).mono ?_
    rintro e w1 ⟨rfl, hb⟩
    obtain ⟨hc, hf⟩ := bcell hb
    have HB := Lib.hid hb
    have hz := hb.size
    simp at hz
    clear hb
    go_wp2
    refine bodyPost_ret (v := .agg #[.int .i64 cd, .int .i64 0, .string ⟨#[]⟩, .string ⟨#[]⟩, .int .i64 0, .string ⟨#[]⟩, .int .i64 0, .slice none 0 0]) (by simp [results, Tryz.results40, go_sem, hc]) rfl ⟨_, _, _, rfl, OwnIts.nil _ _ _, ?_⟩
    exact (((((((((below_then (below2 w _ _) HB.out).setCell (by simp) _).setCell (by simp) _).setCell (by simp) _).setCell (by simp) _).setCell (by simp) _).setCell (by simp) _).setCell (by simp) _).setCell (by simp) _)
end Go.Proofs.YticpebpicdboaaaGreatDoor

/- A code and items of one's own are handed back. -/
namespace Go.Proofs.YticpebpicdboaaaGreatDoor
open Go.ChangeShapes Go.WideShapes Go.ChangeAt Go.RowKit
set_option linter.unusedVariables false

/-- a code, and items of one's own -/
def TreeOwn (w : World) (cd : Int) (l : List It) (e : Ending) (w' : World) : Prop := ∃ a n c, e = .returned (.agg #[.int .i64 cd, .slice a n c]) ∧ OwnIts w' w.heap.size w'.heap.size a n c l ∧ Below w.heap.size w w'
end Go.Proofs.YticpebpicdboaaaGreatDoor

/- spec.PidfOf. -/
namespace Go.Proofs.YticpebpicdboaaaGreatDoor
open Go.ChangeShapes Go.WideShapes Go.ChangeAt Go.RowKit
set_option linter.unusedVariables false

set_option maxRecDepth 100000 in
set_option maxHeartbeats 3200000 in
theorem specPidfOf_any (p : Pr) (a : Option Addr) (n c lo hi : Nat) (w : World) (hs : SmallPr p) (h : OwnIts w lo hi a n c p.more) :
    Calls Tryz.prog 39 #[.agg #[.int .i64 p.kind, .string p.sender, .string p.goal, .int .i64 p.shown, .string p.status, .int .i64 p.prio, .slice a n c]] w (TreeOwn w (projCode p) (pidfT p)) := by
  have P0 := Lib.hid ((PrAt.new w 26 p a n c).below (below1 _ (.cells #[.int .i64 0, .slice none 0 0] 29)))
  have K0 := Lib.hid (fun W (hb : Below w.heap.size w W) => specProjectionOf_any p a n c lo hi W hs (h.below hb))
  have hq := projT_small hs
  have HW := Lib.hid (fun h0 i hi => pidf_wide p hs h0 i hi)
  have HLN := Lib.hid (pidf_len p)
  unfold TreeOwn
  unfold PrrOwn at K0
  clear hs h
  by_cases hcd : projCode p = 0
  · have hpt : pidfT p = pidfL (projT p) := by unfold pidfT projT; rw [if_pos hcd, if_pos hcd]
    rw [hpt] at HW HLN ⊢
    rw [hcd] at K0 ⊢
    have HW := Lib.hid (fun i hi => HW.out hcd i hi)
    clear hpt
    clear hcd
    obtain ⟨pk, pf, pt, ps, pu, pp, pm⟩ := p
    generalize projT ⟨pk, pf, pt, ps, pu, pp, pm⟩ = q at K0 hq HW HLN ⊢
    have KT := Lib.hid (fun b o W (hP : PrOff W b o q) (ho : o ≤ 1000) => l8Tree_any b o q W hq ho hP)
    unfold GrewRes at KT
    generalize pidfL q = L at KT HW HLN ⊢
    obtain ⟨qk, qf, qt, qs, qu, qp, qm⟩ := q
    dsimp only at K0 P0 hq KT
    have d0 := P0.out.c0
    have d1 := P0.out.c1
    have d2 := P0.out.c2
    have d3 := P0.out.c3
    have d4 := P0.out.c4
    have d5 := P0.out.c5
    have d6 := P0.out.c6
    go_enter Tryz.func39, Tryz.ntmps39
    go_wp2_with fail
    refine (K0.out _ (below2 _ _ _)).mono ?_
    rintro e w1 ⟨a1, n1, c1, rfl, h1, hb⟩
    have HB1 := Lib.hid hb
    have hz1 := hb.size
    simp at hz1
    clear h1 d0 d1 d2 d3 d4 d5 d6 hb
    have hPO : PrOff (w1.alloc (.cells #[.int .i64 0, .int .i64 qk, .string qf, .string qt, .int .i64 qs, .string qu, .int .i64 qp, .slice a1 n1 c1] 33)) w1.heap.size 1 ⟨qk, qf, qt, qs, qu, qp, qm⟩ := ⟨by simp, by simp, by simp, by simp, by simp, by simp⟩
    go_wp2_with fail
    refine (KT.out w1.heap.size 1 _ hPO (by decide)).mono ?_
    rintro e w2 ⟨a2, n2, c2, A2, N2, C2, rfl, hg, hb2⟩
    have hlen := hg.len
    have hn2 : n2 ≤ 11 := by have := HLN.out; omega
    have own2 := Lib.hid (hg.own (by omega) (fun i hi => HW.out i (by omega)))
    have hb := below_then (below_then HB1.out (below1 w1 (.cells #[.int .i64 0, .int .i64 qk, .string qf, .string qt, .int .i64 qs, .string qu, .int .i64 qp, .slice a1 n1 c1] 33))) hb2
    obtain ⟨hc, hf⟩ := bcell hb
    have hz2 : w1.heap.size + 1 ≤ w2.heap.size := by have := hb2.size; simpa using this
    have HB := Lib.hid hb
    have hz := hb.size
    simp at hz
    clear hg hlen hb2 hb
    go_wp2
    refine bodyPost_ret (v := .agg #[.int .i64 0, .slice a2 n2 c2]) (by simp [results, Tryz.results39, go_sem, hc]) rfl ⟨_, _, _, rfl, ?_, ?_⟩
    · have st : ∀ (W : World) (i : Nat) (v : Value), OwnIts W (w1.heap.size + 1) w2.heap.size a2 n2 c2 L → OwnIts (W.setCell ⟨w.heap.size + 1, i, none⟩ v) (w1.heap.size + 1) w2.heap.size a2 n2 c2 L := fun W i v h =>
        h.only (Only.set (P := fun i => i = w.heap.size + 1) W ⟨w.heap.size + 1, i, none⟩ v rfl) fun i hlo hhi he => by omega
      have h0 := own2.out
      rw [show ∀ o, (w1.alloc o).heap.size = w1.heap.size + 1 from fun o => by simp] at h0
      exact (st _ 1 _ (st _ 0 _ h0)).mono (by omega) (by simp)
    · exact (((below_then (below2 w _ _) HB.out).setCell (by simp) _).setCell (by simp) _)
  · have hpt : pidfT p = [] := by unfold pidfT; rw [if_neg hcd]
    rw [hpt]
    generalize projCode p = cd at K0 hcd ⊢
    generalize projT p = q at K0
    have q1 : (cd != 0) = true := by rw [bne_iff_ne]; exact hcd
    clear hcd hpt HW HLN hq
    obtain ⟨pk, pf, pt, ps, pu, pp, pm⟩ := p
    obtain ⟨qk, qf, qt, qs, qu, qp, qm⟩ := q
    dsimp only at K0 P0
    have d0 := P0.out.c0
    have d1 := P0.out.c1
    have d2 := P0.out.c2
    have d3 := P0.out.c3
    have d4 := P0.out.c4
    have d5 := P0.out.c5
    have d6 := P0.out.c6
    go_enter Tryz.func39, Tryz.ntmps39
    go_wp2_with fail
    refine (K0.out _ (below2 _ _ _)).mono ?_
    rintro e w1 ⟨a1, n1, c1, rfl, h1, hb⟩
    have hb := below_then hb (below1 w1 (.cells #[.int .i64 cd, .int .i64 qk, .string qf, .string qt, .int .i64 qs, .string qu, .int .i64 qp, .slice a1 n1 c1] 33))
    obtain ⟨hc, hf⟩ := bcell hb
    have HB := Lib.hid hb
    have hz := hb.size
    simp at hz
    clear h1 d0 d1 d2 d3 d4 d5 d6 hb
    go_wp2
    refine bodyPost_ret (v := .agg #[.int .i64 cd, .slice none 0 0]) (by simp [results, Tryz.results39, go_sem, hc]) rfl ⟨_, _, _, rfl, ⟨rfl, by omega, fun i hi => by omega, .inl rfl⟩, ?_⟩
    exact (((below_then (below2 w _ _) HB.out).setCell (by simp) _).setCell (by simp) _)
end Go.Proofs.YticpebpicdboaaaGreatDoor

/- What an item without fault lacks; what is kept over new memory. -/
namespace Go.Proofs.YticpebpicdboaaaGreatDoor
open Go.ChangeShapes Go.WideShapes Go.ChangeAt Go.RowKit
set_option linter.unusedVariables false

theorem empty_str {s : ByteArray} (h : s.toList.isEmpty = true) : s = ⟨#[]⟩ := by
  rw [ByteArray.toList_eq, List.isEmpty_iff] at h
  cases s with
  | mk d =>
    congr 1
    exact Array.toList_eq_nil_iff.1 h
theorem item_text {x : It} (h : itemCode x = 0) (hx : x.name.toList.isEmpty = true) : x.name = ⟨#[]⟩ ∧ x.space = ⟨#[]⟩ ∧ x.attrs = [] := by
  unfold itemCode at h
  split at h
  · omega
  · unfold textCode at h
    split at h
    · omega
    · rename_i h1 h2
      have h3 : x.space.toList.isEmpty = true := by
        cases e : x.space.toList.isEmpty
        · exact absurd (.inl e) h2
        · rfl
      have h4 : x.attrs.length = 0 := by
        rcases Nat.eq_zero_or_pos x.attrs.length with e | e
        · exact e
        · exact absurd (.inr (.inl e)) h2
      exact ⟨empty_str hx, empty_str h3, List.length_eq_zero_iff.1 h4⟩
theorem item_elem {x : It} (h : itemCode x = 0) (hx : x.name.toList.isEmpty = false) : x.text = ⟨#[]⟩ := by
  unfold itemCode at h
  split at h
  · omega
  · rw [if_neg (by rw [hx]; simp)] at h
    unfold elemCode at h
    split at h
    · omega
    · rename_i h2
      refine empty_str ?_
      cases e : x.text.toList.isEmpty
      · exact absurd e h2
      · rfl
theorem alloc_keep {W : World} {p : Addr} {v : Value} (h : W.cell? p = some v) (x : Obj) : (W.alloc x).cell? p = some v := ((below1 W x).cell (World.block_lt_of_cell? _ _ h)).trans h
end Go.Proofs.YticpebpicdboaaaGreatDoor
