/- Contract of the program's PointsOf. -/
import Derived.Test.YtkpbamjmdcbflaaDoorIter
namespace Go.Proofs.YtkpbamjmdcbflaaDoor
open Go.RowKit Go.Shelf
set_option linter.unusedVariables false

attribute [local go_sem] Oper.semAt_some

/-- block B is a struct of two cells -/
def Cells2 (W : World) (B : Nat) (t : TypeId) (a b : Value) : Prop := W.heap[B]? = some (.cells #[a, b] t (0, 0))
theorem Cells2.lt {W : World} {B : Nat} {t : TypeId} {a b : Value} (h : Cells2 W B t a b) : B < W.heap.size := (Array.getElem?_eq_some_iff.1 h).1
theorem Cells2.cell0 {W : World} {B : Nat} {t : TypeId} {a b : Value} (h : Cells2 W B t a b) : W.cell? ⟨B, 0, none⟩ = some a := by simp [World.cell?, show W.heap[B]? = _ from h]
theorem Cells2.cell1 {W : World} {B : Nat} {t : TypeId} {a b : Value} (h : Cells2 W B t a b) : W.cell? ⟨B, 1, none⟩ = some b := by simp [World.cell?, show W.heap[B]? = _ from h]
theorem Cells2.frozen {W : World} {B : Nat} {t : TypeId} {a b : Value} (h : Cells2 W B t a b) (o : Nat) : W.frozen? ⟨B, o, none⟩ = false := by simp [World.frozen?, show W.heap[B]? = _ from h]
theorem Cells2.new (W : World) (t : TypeId) (a b : Value) : Cells2 (W.alloc (.cells #[a, b] t)) W.heap.size t a b := World.alloc_heap_new W _
theorem Cells2.kept {W W' : World} {row : Option Nat} {B : Nat} {t : TypeId} {a b : Value} (h : Cells2 W B t a b) (hg : W.grownBy W' row) (hne : some B ≠ row) : Cells2 W' B t a b := (hg.block B h.lt hne).trans h
theorem Cells2.alloc {W : World} {B : Nat} {t : TypeId} {a b : Value} (h : Cells2 W B t a b) (o : Obj) : Cells2 (W.alloc o) B t a b := h.kept (World.grownBy_alloc W o none) (by simp)
theorem Cells2.set {W : World} {B : Nat} {t : TypeId} {a b : Value} (a' b' : Value) (h : Cells2 W B t a b) : Cells2 ((W.setCell ⟨B, 0, none⟩ a').setCell ⟨B, 1, none⟩ b') B t a' b' := by
  have h1 := heap_setCell_same W B 0 #[a, b] t a' h
  have h2 := heap_setCell_same _ B 1 _ t b' h1
  exact h2
theorem grown_set (W : World) (B o : Nat) (u : Value) : W.grownBy (W.setCell ⟨B, o, none⟩ u) (some B) :=
  ⟨rfl, rfl, rfl, (KeepsOthers.setCell W _ u).size, fun k _ hk => Below.heap_setCell _ _ _ k (fun e => hk (by rw [e]))⟩
theorem ne_of_some {B : Nat} {o : Option Nat} (h : some B ≠ o) : o = none ∨ o ≠ some B := .inr (fun e => h e.symm)
theorem Cells2.not_row {W : World} {B : Nat} {t e : TypeId} {a b : Value} (h : Cells2 W B t a b) (hte : t ≠ e) {base size k : Nat} {v : Value} {xs : List Value} (hr : W.ownsRow base e size v k xs) : some B ≠ v.ownBlock := by
  rcases hr.2 with ⟨rfl, _⟩ | ⟨g, cap, cur, rfl, _, hgb, _⟩
  · simp [Value.ownBlock]
  · intro e'
    obtain rfl : B = g := by simpa [Value.ownBlock] using e'
    have := (show W.heap[B]? = _ from h).symm.trans hgb
    simp at this
    exact hte this.2
/-- behind an append and the store of what it gives: another block is as it was -/
theorem appended_block {W w1 : World} {B k : Nat} {v v' : Value} {tmp : Obj} (hg : (W.alloc tmp).grownBy w1 v.ownBlock) (hk : k < W.heap.size) (hne : some k ≠ v.ownBlock) (hB : k ≠ B) : (w1.setCell ⟨B, 0, none⟩ v').heap[k]? = W.heap[k]? := by
  rw [Below.heap_setCell _ _ _ k hB, hg.block k (by simp; omega) hne, Below.heap_alloc _ _ _ hk]

def oksB (pre : List (Int × Bool)) : Bool := pre.all (·.2)
theorem pts_all {l : List UInt8} (h : oksB (strm l) = true) : pts l = some ((strm l).map (·.1)) := by
  unfold oksB at h
  unfold pts
  rw [if_pos h]
theorem pts_not {l : List UInt8} {pre : List (Int × Bool)} (hp : pre <+: strm l) (hb : oksB pre = false) : pts l = none := by
  unfold pts
  rw [if_neg]
  intro h
  unfold oksB at hb
  rw [Bool.eq_false_iff] at hb
  apply hb
  rw [List.all_eq_true] at h ⊢
  exact fun x hx => h x (hp.subset hx)

theorem i64Info2 : (Tryd.prog.info? 2).map (fun i => (i.zero, i.size, i.bytes)) = some (some (.int .i64 0), 1, 8) := by kernel_rfl

/-- the code and the list that PointsOf tells of a text that is not too long -/
def pcode (l : List UInt8) : Int := if (pts l).isSome then 0 else 5
def plist (l : List UInt8) : List Int := (pts l).getD []

set_option maxRecDepth 100000 in
set_option maxHeartbeats 4000000 in
theorem implPointsOf_in (s : ByteArray) (hs : s.size ≤ 4000) (w : World) (hT : Tabs w) :
    CallsIn Fence.wide 6 Tryd.prog 8 #[.string s] w (OwnsRes2 w 2 .i64 (pcode s.data.toList) (plist s.data.toList)) := by
  obtain ⟨i0, hi, hz0, hz1, hz2⟩ := info_parts i64Info2
  refine callsIn_of_wp_marks Tryd.func8 rfl trivial ?_ rfl
  simp only [Tryd.ntmps8, List.size_toArray, List.length_cons, List.length_nil, Nat.reduceAdd, Nat.reduceSub, Array.replicate_succ, Array.replicate_zero, List.push_toArray, List.append_toArray, List.nil_append, List.cons_append]
  gi_wp2_with (refine ⟨trivial, ?_⟩; gi_at_call 16; refine (pointsIn_in _ _ _).mono ?_; rintro e w' ⟨rfl, rfl⟩)
  have bR := Cells2.new w 31 (.int .i64 0) (.slice none 0 0)
  have bL := Boxed.new (w.alloc (.cells #[.int .i64 0, .slice none 0 0] 31)) 29 (.slice none 0 0)
  have bT := Boxed.new ((w.alloc (.cells #[.int .i64 0, .slice none 0 0] 31)).alloc (.cells #[.slice none 0 0] 29)) 9 (.string s)
  simp only [World.size_alloc] at bL bT
  have hB0 : Below w.heap.size w (((w.alloc (.cells #[.int .i64 0, .slice none 0 0] 31)).alloc (.cells #[.slice none 0 0] 29)).alloc (.cells #[.string s] 9)) := (below2 w _ _).alloc (by simp; omega) _
  refine wpIn_rangeFunc_ownF rfl (by omega) (gf := 28) (lb := #[.pointer (some ⟨w.heap.size + 1 + 1, 0, none⟩)]) rfl trivial (enters_of Tryd.func28 (by kernel_rfl) rfl)
    (iter_stops _ (by omega) (w.heap.size + 1 + 1) w.heap.size s (by omega) (gs_of_tabs hT) _ (by simp) (by simp; omega) bT.cell (tabs_kept hT hB0)) (fun h k => KpT.trans h k) (kpT_b (by simp; omega) (by simp)) (Below.refl _ _) (fun _ => rfl)
    (fun pre W => ((∃ v, Boxed W (w.heap.size + 1) 29 v ∧ W.ownsRow w.heap.size 2 1 v pre.length ((pre.map (·.1)).map (Value.int .i64)) ∧ oksB pre = true) ∧
      (Cells2 W w.heap.size 31 (.int .i64 0) (.slice none 0 0) ∧ Boxed W (w.heap.size + 1 + 1) 9 (.string s))) ∧ Below w.heap.size w W)
    (fun c pre W => (c = .ret ∧ oksB pre = false ∧ Cells2 W w.heap.size 31 (.int .i64 5) (.slice none 0 0)) ∧ Below w.heap.size w W)
    (OwnFrom.and (OwnFrom.and (Own.from (holdsRow_own w.heap.size (w.heap.size + 1) 29 2 1 (fun pre => pre.length) (fun pre => (pre.map (·.1)).map (Value.int .i64)) (fun pre v => oksB pre = true)) _)
      (Own.from (fun s A B row hs hg hr => ⟨hs.1.kept hg (fun e => by obtain ⟨o, ho, hc⟩ := hr _ e.symm; rw [show A.heap[_]? = _ from hs.1] at ho; cases ho; cases hc), hs.2.kept hg (fun e => by obtain ⟨o, ho, hc⟩ := hr _ e.symm; rw [show A.heap[_]? = _ from hs.2] at ho; cases ho; cases hc)⟩) _)) (ownFrom_below (Nat.le_refl _) (by simp; omega)))
    (fun c => OwnFrom.and (Own.from (fun s A B row hs hg hr => ⟨hs.1, hs.2.1, hs.2.2.kept hg (fun e => by obtain ⟨o, ho, hc⟩ := hr _ e.symm; rw [show A.heap[_]? = _ from hs.2.2] at ho; cases ho; cases hc)⟩) _) (ownFrom_below (Nat.le_refl _) (by simp; omega)))
    ⟨⟨⟨_, bL.alloc _, World.ownsRow_nil _ _ _ _, rfl⟩, (bR.alloc _).alloc _, bT⟩, hB0⟩
    (fun x => { tmps := #[.string s, undef, .pointer (some ⟨w.heap.size, 0, none⟩), .pointer (some ⟨w.heap.size + 1, 0, none⟩), .int .i64 x.1, .bool x.2, .string s, .int .i64 s.size, .bool (decide ((4000 : Int) < (s.size : Int))), undef, .string s, .func (.func 28) #[] #[.pointer (some ⟨w.heap.size + 1 + 1, 0, none⟩)], .int .i64 x.1, .bool x.2, undef, undef, undef, undef, undef, undef, undef, undef, undef], defers := [] }) ?assign ?body ?done ?stop
  case assign =>
    intro l x W K hK
    unfold encP
    gi_wp2
    exact hK
  case body =>
    rintro l pre ⟨p, ok⟩ W ⟨⟨⟨v, hv, hrow, hok⟩, hR, hTx⟩, hB⟩ hlt
    have hHO := Lib.hid hok
    have hrl := strm_len s.data.toList
    rw [show s.data.toList.length = s.size by simp] at hrl
    have hpre : pre.length ≤ 4000 := by omega
    clear hok hlt hrl
    cases ok
    · have hc0 := hR.cell0
      have hc1 := hR.cell1
      have hf := hR.frozen
      gi_wp2
      exact ⟨(KeepsOthers.setCell _ _ _).trans (KeepsOthers.setCell _ _ _), ⟨rfl, by unfold oksB; rw [List.all_append]; simp, hR.set _ _⟩, (hB.setCell (p := ⟨w.heap.size, 0, none⟩) (Nat.le_refl _) _).setCell (p := ⟨w.heap.size, 1, none⟩) (Nat.le_refl _) _⟩
    · have hc := hv.cell
      gi_wp2_with (gi_at_builtin; refine wpListIn_append_own _ rfl _ _ 29 rfl w.heap.size 2 i0 (.int .i64 0) 1 8 Tryd.underlying29 hi hz0 hz1 hz2 rfl (by decide) _ _ _ rfl (hrow.alloc _) ⟨W.heap.size, 0, none⟩ 1 1 [.int .i64 p] rfl rfl (cell_one_new _ _ _) (by simp [Value.oneCell']) (by unfold maxLen; omega) (by omega) (by have := hB.size; simp; omega) ?_; intro v' w1 hown' hgrow _; obtain ⟨g', cap', rfl⟩ := ownsRow_succ hown'; obtain ⟨hv1, hv2, hr2, hk2, hb2⟩ := hv.appended (by decide) hrow hB.size (by omega) hown' hgrow; have hc1 := hv1.cell; have hf1 := hv1.frozen)
      have hRb := appended_block (B := w.heap.size + 1) (v' := .slice (some ⟨g', 0, none⟩) (pre.length + 1) cap') hgrow hR.lt (hR.not_row (by decide) hrow) (by omega)
      have hTb := appended_block (B := w.heap.size + 1) (v' := .slice (some ⟨g', 0, none⟩) (pre.length + 1) cap') hgrow hTx.lt (hTx.not_row (by decide) hrow) (by omega)
      exact ⟨hk2, ⟨hb2, hTb⟩, ⟨⟨_, hv2, by simpa using hr2, by unfold oksB; rw [List.all_append]; have := hHO.out; unfold oksB at this; rw [this]; rfl⟩, hRb.trans hR, hTb.trans hTx⟩, hB.trans hb2⟩
  case done =>
    rintro D ys W hD rfl ⟨⟨⟨v, hv, hrow, hok⟩, hR, hTx⟩, hB⟩ hK
    obtain ⟨a, c, rfl⟩ := owns_slice hrow
    have hp := pts_all hok
    have hnl : (strm s.data.toList).length = ((strm s.data.toList).map (·.1)).length := by simp
    have HROW := Lib.hid hrow
    have e1 : pcode s.data.toList = 0 := by unfold pcode; rw [hp]; rfl
    have e2 : plist s.data.toList = (strm s.data.toList).map (·.1) := by unfold plist; rw [hp]; rfl
    have E1 := Lib.hid e1
    have E2 := Lib.hid e2
    have hl := hv.cell
    have hc0 := hR.cell0
    have hc1 := hR.cell1
    have hf := hR.frozen
    have HR := Lib.hid hR
    have hne := hR.not_row (by decide) hrow
    clear hp hrow hok hnl e1 e2
    generalize (strm s.data.toList).length = n at *
    gi_wp2
    have hK' := ((KeepsOthers.setCell W ⟨w.heap.size, 0, none⟩ (.int .i64 0)).trans (KeepsOthers.setCell _ ⟨w.heap.size, 1, none⟩ (.slice a n c))).same D _ hK rfl
    have hR2 := HR.out.set (.int .i64 0) (.slice a n c)
    refine ⟨by simp, .inl ⟨_, _, rfl, run_takeDeferred hK', ?_⟩⟩
    have hd0 := cell_kept hR2.cell0 (grownBy_putObj' _ D (.deferred none)) (fun r e => by cases e; exact ⟨_, hK', rfl⟩)
    have hd1 := cell_kept hR2.cell1 (grownBy_putObj' _ D (.deferred none)) (fun r e => by cases e; exact ⟨_, hK', rfl⟩)
    refine ⟨.agg #[.int .i64 0, .slice a n c], ?_, a, n, c, by rw [E1.out], ?_, ((hB.setCell (p := ⟨w.heap.size, 0, none⟩) (Nat.le_refl _) _).setCell (p := ⟨w.heap.size, 1, none⟩) (Nat.le_refl _) _).trans (belowK_b (w := w) (Nat.le_refl _) _ D _ _ (by simp at hD; omega) hK' rfl rfl)⟩
    · simp [results, Tryd.f8, go_sem, hd0, hd1]
    · rw [E2.out]
      exact ownsRow_putObj ((HROW.out.kept (grown_set _ _ _ _) (ne_of_some hne)).kept (grown_set _ _ _ _) (ne_of_some hne)) _ hK' rfl
  case stop =>
    rintro D c pre W hD hpre ⟨⟨rfl, hbad, hR⟩, hB⟩ hK
    have hp := pts_not hpre hbad
    have e1 : pcode s.data.toList = 5 := by unfold pcode; rw [hp]; rfl
    have e2 : plist s.data.toList = [] := by unfold plist; rw [hp]; rfl
    have E1 := Lib.hid e1
    have E2 := Lib.hid e2
    clear e1 e2 hp
    gi_wp2
    refine ⟨by simp, .inl ⟨_, _, rfl, run_takeDeferred hK, ?_⟩⟩
    have hd0 := cell_kept hR.cell0 (grownBy_putObj' _ D (.deferred none)) (fun r e => by cases e; exact ⟨_, hK, rfl⟩)
    have hd1 := cell_kept hR.cell1 (grownBy_putObj' _ D (.deferred none)) (fun r e => by cases e; exact ⟨_, hK, rfl⟩)
    refine ⟨.agg #[.int .i64 5, .slice none 0 0], ?_, none, 0, 0, by rw [E1.out], by rw [E2.out]; exact World.ownsRow_nil _ _ _ _, hB.trans (belowK_b (w := w) (Nat.le_refl _) W D _ _ (by simp at hD; omega) hK rfl rfl)⟩
    simp [results, Tryd.f8, go_sem, hd0, hd1]

/-- the program's PointsOf -/
theorem implPointsOf_any (s : ByteArray) (hs : s.size ≤ maxLen) (w : World) (hT : Tabs w) :
    Calls Tryd.prog 8 #[.string s] w (OwnsRes2 w 2 .i64 (ptsCode s.data.toList) (ptsList s.data.toList)) := by
  have hl : s.data.toList.length = s.size := by simp
  unfold ptsCode ptsList
  rw [hl]
  by_cases h : 4000 < s.size
  · rw [if_pos h, if_pos h]
    clear hl
    unfold maxLen at hs
    go_enter Tryd.func8, Tryd.ntmps8
    go_wp2
    exact bodyPost_ret (v := .agg #[.int .i64 2, .slice none 0 0]) (by simp [results, Tryd.results8, go_sem]) rfl
      ⟨none, 0, 0, rfl, World.ownsRow_nil _ _ _ _, below1 _ _⟩
  · rw [if_neg h, if_neg h]
    exact callsIn_wide.1 (implPointsOf_in s (by omega) w hT)
end Go.Proofs.YtkpbamjmdcbflaaDoor
