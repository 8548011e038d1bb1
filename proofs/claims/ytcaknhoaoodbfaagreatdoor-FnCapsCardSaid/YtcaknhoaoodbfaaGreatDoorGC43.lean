/- The program's Sha1Of. -/
import Derived.Test.YtcaknhoaoodbfaaGreatDoorGC42
import Derived.Test.YtcaknhoaoodbfaaGreatDoorGC38
import Derived.Test.YtcaknhoaoodbfaaGreatDoorGC40
import Derived.Test.YtcaknhoaoodbfaaGreatDoorGC13
namespace Go.Proofs.YtcaknhoaoodbfaaGreatDoor
open Go.RowKit Go.Shelf
set_option linter.unusedVariables false

attribute [local go_sem] Oper.semAt_some

def foldB (p : List Int) (pre : List Nat) : St5 := pre.foldl (fun s k => withB s (blkAt p k)) sha0
theorem foldB_snoc (p : List Int) (pre : List Nat) (k : Nat) : foldB p (pre ++ [k]) = withB (foldB p pre) (blkAt p k) := by simp [foldB]
theorem foldB_range (p : List Int) (n : Nat) : foldB p (List.range n) = shaSt p n := by
  induction n with
  | zero => rfl
  | succ n ih => rw [List.range_succ, foldB_snoc, ih]; rfl
theorem foldB_in (p : List Int) (pre : List Nat) : (foldB p pre).In := by
  rcases List.eq_nil_or_concat pre with rfl | ⟨l, x, rfl⟩
  · exact sha0_in
  · rw [List.concat_eq_append, foldB_snoc]
    exact addS_in _ _
theorem blkAt_length (p : List Int) (k m : Nat) (hm : p.length = 64 * m) (hk : 64 * k < p.length) : (blkAt p k).length = 64 := by
  unfold blkAt
  rw [List.length_take, List.length_drop]
  omega
theorem blkAt_getD (p : List Int) (k i : Nat) (hi : i < 64) : (blkAt p k).getD i 0 = p.getD (64 * k + i) 0 := by
  unfold blkAt
  rw [List.getD_eq_getElem?_getD, List.getElem?_take, if_pos hi, List.getElem?_drop, ← List.getD_eq_getElem?_getD]

theorem ArrU.kept {w w' : World} {g : Nat} {T : TypeId} {xs : List Int} {row : Option Nat} (h : ArrU w g T xs) (hg : w.grownBy w' row) (hne : some g ≠ row) : ArrU w' g T xs := (hg.block g h.lt hne).trans h
/-- block g is a code and a slice -/
def CodeB (w : World) (g : Nat) (T : TypeId) (cd : Int) (v : Value) : Prop := w.heap[g]? = some (.cells #[.int .i64 cd, v] T (0, 0))
theorem CodeB.lt {w : World} {g : Nat} {T : TypeId} {cd : Int} {v : Value} (h : CodeB w g T cd v) : g < w.heap.size := (Array.getElem?_eq_some_iff.1 h).1
theorem CodeB.kept {w w' : World} {g : Nat} {T : TypeId} {cd : Int} {v : Value} {row : Option Nat} (h : CodeB w g T cd v) (hg : w.grownBy w' row) (hne : some g ≠ row) : CodeB w' g T cd v := (hg.block g h.lt hne).trans h
theorem CodeB.below {w w' : World} {g : Nat} {T : TypeId} {cd : Int} {v : Value} (h : CodeB w g T cd v) (hb : Below w.heap.size w w') : CodeB w' g T cd v := (hb.block g h.lt).trans h
theorem CodeB.other {w : World} {g : Nat} {T : TypeId} {cd : Int} {v : Value} (h : CodeB w g T cd v) (p : Addr) (u : Value) (hn : p.block ≠ g) : CodeB (w.setCell p u) g T cd v := by
  unfold CodeB at h ⊢
  rw [Below.heap_setCell w p u g (fun e => hn e.symm)]
  exact h
theorem CodeB.cell0 {w : World} {g : Nat} {T : TypeId} {cd : Int} {v : Value} (h : CodeB w g T cd v) : w.cell? ⟨g, 0, none⟩ = some (.int .i64 cd) := by rw [Lib.cell_of_heap h]; rfl
theorem CodeB.cell1 {w : World} {g : Nat} {T : TypeId} {cd : Int} {v : Value} (h : CodeB w g T cd v) : w.cell? ⟨g, 1, none⟩ = some v := by rw [Lib.cell_of_heap h]; rfl
theorem CodeB.free {w : World} {g : Nat} {T : TypeId} {cd : Int} {v : Value} (h : CodeB w g T cd v) (i : Nat) : w.frozen? ⟨g, i, none⟩ = false := Lib.frozen_of_heap h i
theorem CodeB.set {w : World} {g : Nat} {T : TypeId} {cd : Int} {v : Value} (h : CodeB w g T cd v) (cd' : Int) (v' : Value) : CodeB ((w.setCell ⟨g, 0, none⟩ (.int .i64 cd')).setCell ⟨g, 1, none⟩ v') g T cd' v' := by
  unfold CodeB at h ⊢
  simp [World.setCell, Array.getElem?_modify, h]
theorem keepsB {W W' : World} (h : Below W.heap.size W W') : KeepsOthers W W' :=
  ⟨h.size, fun k o hk _ => (h.block k (Array.getElem?_eq_some_iff.1 hk).1).trans hk⟩
theorem index5 (xs : List Int) (k : Nat) (hl : xs.length = 5) (hk : k < 5) (w : World) : (Instr.index 189 (.agg (u32s xs)) (.int .i64 k)).run Tryz.prog w = .ok (.int .u32 (xs.getD k 0)) w := by
  have hn : 0 ≤ (k : Int) ∧ (k : Int) < ((5 : Nat) : Int) := by omega
  have h1 : (u32s xs)[k]? = some (.int .u32 (xs.getD k 0)) := by
    simp [u32s, List.getD_eq_getElem?_getD, List.getElem?_eq_getElem (show k < xs.length by omega)]
  simp [Instr.index, run_underlying Tryz.underlying189, asIntOf, hn, go_sem, h1]
  intro h
  omega
/-- the words' bytes -/
def bytesPre (s : St5) (k : Nat) : List Int := (s.list.take k).flatMap wordB
theorem bytesPre_succ (s : St5) (k : Nat) (h : k < 5) : bytesPre s (k + 1) = bytesPre s k ++ highs (s.list.getD k 0) 4 := by
  unfold bytesPre
  have hl : s.list.length = 5 := rfl
  rw [List.take_succ_eq_append_getElem (by omega), List.flatMap_append, List.getD_eq_getElem?_getD, List.getElem?_eq_getElem (by omega)]
  simp [wordB]
theorem bytesPre_length (s : St5) (k : Nat) (h : k ≤ 5) : (bytesPre s k).length = 4 * k := by
  induction k with
  | zero => rfl
  | succ k ih => rw [bytesPre_succ s k (by omega), List.length_append, ih (by omega), highs_length]; omega
theorem bytesPre_five (s : St5) : bytesPre s 5 = wordB s.a ++ wordB s.b ++ wordB s.c ++ wordB s.d ++ wordB s.e := by
  simp [bytesPre, St5.list]
theorem shaL_pre (xs : List Int) : shaL xs = bytesPre (shaSt (padL xs) ((xs.length + 72) / 64)) 5 := by
  rw [bytesPre_five]
  rfl

set_option maxRecDepth 100000 in
set_option maxHeartbeats 1600000 in
theorem implSha1Of_in (a : Option Addr) (n c : Nat) (xs : List Int) (w : World) (hn : n ≤ 3000) (hnil : a = none → c = 0) (h : InRow w a n c xs) :
    CallsIn Fence.wide 6 Tryz.prog 94 #[.slice a n c] w (OwnsRes2 w 5 .u8 0 (shaL xs)) := by
  have KB := Lib.hid (fun W (hb : Below w.heap.size w W) => inBlocks_any a n c xs W hn hnil (in_below h hb))
  have hmem : ∀ x ∈ xs, 0 ≤ x ∧ x ≤ 255 := fun x hx => by
    obtain ⟨i, hi, rfl⟩ := List.getElem_of_mem hx
    have := h.byte i
    rwa [List.getD_eq_getElem?_getD, List.getElem?_eq_getElem hi] at this
  have hpm := padL_mem hmem
  have HLX := Lib.hid h.len
  have hlp := padL_length xs
  rw [h.len] at hlp
  have HSH := Lib.hid (shaL_pre xs)
  rw [h.len] at HSH
  clear hnil h hmem
  obtain ⟨p, hp⟩ : ∃ p, padL xs = p := ⟨_, rfl⟩
  rw [hp] at KB hpm hlp HSH
  obtain ⟨m, hm⟩ : ∃ m, (n + 72) / 64 = m := ⟨_, rfl⟩
  rw [hm] at hlp HSH
  have hm1 : 1 ≤ m := by omega
  have hm2 : m ≤ 48 := by omega
  have HLP := Lib.hid hlp
  have HPM := Lib.hid hpm
  unfold OwnsRes at KB
  clear hp hm hlp hpm
  refine callsIn_of_wp_marks Tryz.func94 rfl trivial ?_ rfl
  simp only [Tryz.ntmps94, List.size_toArray, List.length_cons, List.length_nil, Nat.reduceAdd, Nat.reduceSub, Array.replicate_succ, Array.replicate_zero, List.push_toArray, List.append_toArray, List.nil_append, List.cons_append]
  gi_wp2_with fail
  refine ⟨trivial, (callsIn_wide.2 (KB.out _ (below2 _ _ _))).mono ?_⟩
  rintro e w1 ⟨a1, n1, c1, rfl, ho1, hb1⟩
  have hn1 : n1 = 64 * m := (owns_length ho1).trans HLP.out
  obtain ⟨g, rfl, hg1, hc1, hcm⟩ : ∃ g, a1 = some ⟨g, 0, none⟩ ∧ w.heap.size + 1 + 1 ≤ g ∧ n1 ≤ c1 ∧ c1 ≤ maxLen := by
    rcases ho1.2 with ⟨hv, h0⟩ | ⟨g, cap, cur, hv, hg, hh, hnc, hm, hs, ht⟩
    · omega
    · simp only [Value.slice.injEq] at hv
      obtain ⟨rfl, _, rfl⟩ := hv
      exact ⟨g, rfl, by simpa using hg, hnc, hm⟩
  have hrow : ∀ i, i < n1 → w1.cell? ⟨g, i, none⟩ = some (.int .u8 (p.getD i 0)) := fun i hi => by
    rw [ho1.cellAt i (by omega), List.getElem?_map, List.getElem?_eq_getElem (by rw [HLP.out]; omega), List.getD_eq_getElem?_getD, List.getElem?_eq_getElem (by rw [HLP.out]; omega)]
    rfl
  have hgl : g < w1.heap.size := (ho1.lt g rfl).2
  have bS : ArrU w1 (w.heap.size + 1) 189 sha0.list := by
    have := (ArrU.new (w.alloc (.cells #[.int .i64 0, .slice none 0 0] 105)) 189 sha0.list).below hb1
    simpa using this
  have bR : CodeB w1 w.heap.size 105 0 (.slice none 0 0) := by
    have h1 : CodeB (w.alloc (.cells #[.int .i64 0, .slice none 0 0] 105)) w.heap.size 105 0 (.slice none 0 0) := heap_alloc_new w _
    exact (h1.below (below1 _ _)).below hb1
  have hB1 : Below w.heap.size w w1 := below_then (below2 _ _ _) hb1
  have hz1 : w.heap.size + 1 + 1 ≤ w1.heap.size := by have := hb1.size; simpa using this
  have HROW := Lib.hid hrow
  have HBS := Lib.hid bS
  have HBR := Lib.hid bR
  have HB1 := Lib.hid hB1
  clear ho1 hb1 hrow bS bR hB1 KB
  gi_wp2_with fail
  refine ⟨trivial, (chunk_in _ _ _ _ 64 (by decide) _).mono ?_⟩
  rintro e w2 ⟨rfl, rfl⟩
  gi_wp2_with fail
  subst hn1
  have hN : pieces 64 (64 * m) = m := by unfold pieces; omega
  have HN := Lib.hid hN
  clear hN
  generalize hW2 : ((w1.alloc (Obj.cells #[Value.slice (some { block := g, off := 0 }) (64 * m) c1] 22)).alloc (Obj.cells #[Value.int IntKind.i64 64] 3)) = W2
  have hB2 : Below w1.heap.size w1 W2 := by rw [← hW2]; exact below2 _ _ _
  have hz2 : W2.heap.size = w1.heap.size + 1 + 1 := by rw [← hW2]; simp
  have hb0 : W2.cell? ⟨w1.heap.size, 0, none⟩ = some (.slice (some ⟨g, 0, none⟩) (64 * m) c1) := by rw [← hW2]; simp
  have hb1 : W2.cell? ⟨w1.heap.size + 1, 0, none⟩ = some (.int .i64 ((64 : Nat) : Int)) := by rw [← hW2]; simp
  have sR := HBR.out.below hB2
  have sS := HBS.out.below hB2
  have sP : ∀ i, i < 64 * m → W2.cell? ⟨g, i, none⟩ = some (.int .u8 (p.getD i 0)) := fun i hi => (hB2.cell (p := ⟨g, i, none⟩) hgl).trans (HROW.out i hi)
  have sB : Below w.heap.size w W2 := below_then HB1.out hB2
  clear hW2 hB2 HROW HBS HBR
  refine wpIn_rangeFunc_ownF rfl (by omega) (gf := 210) (lb := #[.pointer (some ⟨w1.heap.size, 0, none⟩), .pointer (some ⟨w1.heap.size + 1, 0, none⟩)]) rfl trivial (enters_of Tryz.func210 (by kernel_rfl) rfl)
    (chunk_stops _ (by omega) w1.heap.size w.heap.size (some ⟨g, 0, none⟩) g 0 (64 * m) c1 64 (by decide) (by decide) (by omega) hc1 hcm (.inr rfl) W2 (by omega) (by omega) hb0 hb1) (fun h k => KpC.trans h k) (kpC_b (by omega) (by omega)) (Below.refl _ _) (fun _ => rfl)
    (fun pre W => (ArrU W (w.heap.size + 1) 189 (foldB p (pre.map (·.1))).list ∧ CodeB W w.heap.size 105 0 (.slice none 0 0) ∧ (∀ i, i < 64 * m → W.cell? ⟨g, i, none⟩ = some (.int .u8 (p.getD i 0))) ∧ w1.heap.size + 1 < W.heap.size) ∧ Below w.heap.size w W)
    (fun c pre W => False ∧ Below w.heap.size w W)
    (OwnFrom.and (Own.from (fun s A B row hs hg hr => ⟨hs.1.kept hg (fun e => by obtain ⟨o, ho, hc⟩ := hr _ e.symm; rw [show A.heap[_]? = _ from hs.1] at ho; cases ho; cases hc), hs.2.1.kept hg (fun e => by obtain ⟨o, ho, hc⟩ := hr _ e.symm; rw [show A.heap[_]? = _ from hs.2.1] at ho; cases ho; cases hc), fun i hi => cell_kept (hs.2.2.1 i hi) hg hr, Nat.lt_of_lt_of_le hs.2.2.2 hg.size⟩) _) (ownFrom_below (Nat.le_refl _) (by omega)))
    (fun c => OwnFrom.and (Own.from (fun s A B row hs hg hr => hs.elim) _) (ownFrom_below (Nat.le_refl _) (by omega)))
    ⟨⟨sS, sR, sP, by omega⟩, sB⟩
    (fun x => { tmps := #[.slice a n c, undef, .pointer (some ⟨w.heap.size, 0, none⟩), .pointer (some ⟨w.heap.size + 1, 0, none⟩), .slice (some ⟨g, 64 * x.1, none⟩) (min 64 (64 * m - 64 * x.1)) (min 64 (64 * m - 64 * x.1)), undef, undef, undef, .slice a n c, .int .i64 n, .bool (decide ((3000 : Int) < (n : Int))), undef,
      .agg #[.int .u32 1732584193, .int .u32 4023233417, .int .u32 2562383102, .int .u32 271733878, .int .u32 3285377520], .slice a n c, .slice (some ⟨g, 0, none⟩) (64 * m) c1,
      .func (.func 210) #[] #[.pointer (some ⟨w1.heap.size, 0, none⟩), .pointer (some ⟨w1.heap.size + 1, 0, none⟩)], .slice (some ⟨g, 64 * x.1, none⟩) (min 64 (64 * m - 64 * x.1)) (min 64 (64 * m - 64 * x.1)),
      undef, undef, undef, undef, undef, undef, undef, undef, undef, undef, undef, undef, undef, undef], defers := [] }) ?assign ?body ?done ?stop
  case assign =>
    intro l x W K hK
    unfold encC
    simp only [Nat.zero_add]
    gi_wp2
    exact hK
  case body =>
    rintro l pre x W ⟨⟨hS, hR, hP, hZ⟩, hB⟩ hlt
    clear sR sS sP sB hb0 hb1 hlt
    obtain ⟨k, hk⟩ := x
    have e64 : min 64 (64 * m - 64 * k) = 64 := by omega
    dsimp only
    rw [e64]
    have hbl := blkAt_length p k m HLP.out (by rw [HLP.out]; exact hk)
    have hby : ∀ i, 0 ≤ (blkAt p k).getD i 0 ∧ (blkAt p k).getD i 0 ≤ 255 := fun i => by
      rw [List.getD_eq_getElem?_getD]
      rcases Nat.lt_or_ge i (blkAt p k).length with h1 | h1
      · rw [List.getElem?_eq_getElem h1]
        exact HPM.out _ (List.mem_of_mem_drop (List.mem_of_mem_take (List.getElem_mem h1)))
      · rw [List.getElem?_eq_none h1]
        decide
    have hcl : ∀ i, i < 64 → W.cell? ⟨g, 64 * k + i, none⟩ = some (.int .u8 ((blkAt p k).getD i 0)) := fun i hi => by
      rw [blkAt_getD _ _ _ hi]
      exact hP _ (by omega)
    have K := Lib.hid (with_any g (64 * k) 64 (blkAt p k) (foldB p (pre.map (·.1))) (foldB_in _ _) W hbl hby (by omega) hcl)
    have HSN := Lib.hid (foldB_snoc p (pre.map (·.1)) k)
    clear hbl hby hcl
    obtain ⟨c0, c1', c2, c3, c4⟩ := hS.five
    unfold aggS at K
    generalize withB (foldB p (pre.map (·.1))) (blkAt p k) = nt at K HSN
    generalize foldB p (pre.map (·.1)) = cur at *
    have HS := Lib.hid hS
    have HR := Lib.hid hR
    have HP := Lib.hid hP
    have HB := Lib.hid hB
    clear hS hR hP hB
    gi_wp2_with fail
    refine ⟨trivial, (CallsIn.inRound l (callsIn_wide.2 K.out)).mono ?_⟩
    rintro e w3 ⟨rfl, hb3⟩
    have E5 := HS.out.below hb3
    obtain ⟨y0, y1, y2, y3, y4⟩ := E5.five
    have f0 := E5.free 0
    have f1 := E5.free 1
    have f2 := E5.free 2
    have f3 := E5.free 3
    have f4 := E5.free 4
    have HE5 := Lib.hid E5
    have HB3 := Lib.hid hb3
    have hlw : w.heap.size + 1 < W.heap.size := HS.out.lt
    clear E5 hb3 c0 c1' c2 c3 c4
    gi_wp2
    have hR2 : w.heap.size + 1 ≠ w.heap.size := by omega
    refine ⟨(((((keepsB HB3.out).trans (KeepsOthers.setCell _ _ _)).trans (KeepsOthers.setCell _ _ _)).trans (KeepsOthers.setCell _ _ _)).trans (KeepsOthers.setCell _ _ _)).trans (KeepsOthers.setCell _ _ _), ⟨?_, ?_, ?_⟩, ⟨?_, ?_, ?_, ?_⟩, ?_⟩
    · exact (((((HB3.out.mono (by omega)).setCell (by simp) _).setCell (by simp) _).setCell (by simp) _).setCell (by simp) _).setCell (by simp) _
    · exact (((((Only.set (P := fun i => i = w.heap.size + 1) w3 ⟨w.heap.size + 1, 0, none⟩ (.int .u32 nt.a) rfl).trans (Only.set _ ⟨w.heap.size + 1, 1, none⟩ _ rfl)).trans (Only.set _ ⟨w.heap.size + 1, 2, none⟩ _ rfl)).trans (Only.set _ ⟨w.heap.size + 1, 3, none⟩ _ rfl)).trans (Only.set _ ⟨w.heap.size + 1, 4, none⟩ _ rfl)).block _ (Nat.lt_of_lt_of_le (by omega) HB3.out.size) (by omega) |>.trans (HB3.out.block _ (by omega))
    · exact (((((Only.set (P := fun i => i = w.heap.size + 1) w3 ⟨w.heap.size + 1, 0, none⟩ (.int .u32 nt.a) rfl).trans (Only.set _ ⟨w.heap.size + 1, 1, none⟩ _ rfl)).trans (Only.set _ ⟨w.heap.size + 1, 2, none⟩ _ rfl)).trans (Only.set _ ⟨w.heap.size + 1, 3, none⟩ _ rfl)).trans (Only.set _ ⟨w.heap.size + 1, 4, none⟩ _ rfl)).block _ (Nat.lt_of_lt_of_le (by omega) HB3.out.size) (by omega) |>.trans (HB3.out.block _ (by omega))
    · rw [List.map_append, List.map_cons, List.map_nil, HSN.out]
      exact HE5.out.put5 nt
    · exact (((((HR.out.below HB3.out).other _ _ hR2).other _ _ hR2).other _ _ hR2).other _ _ hR2).other _ _ hR2
    · intro i hi
      have hgW : g < W.heap.size := by omega
      have hgn : g ≠ w.heap.size + 1 := by omega
      exact ((((((Only.set (P := fun i => i = w.heap.size + 1) w3 ⟨w.heap.size + 1, 0, none⟩ (.int .u32 nt.a) rfl).trans (Only.set _ ⟨w.heap.size + 1, 1, none⟩ _ rfl)).trans (Only.set _ ⟨w.heap.size + 1, 2, none⟩ _ rfl)).trans (Only.set _ ⟨w.heap.size + 1, 3, none⟩ _ rfl)).trans (Only.set _ ⟨w.heap.size + 1, 4, none⟩ _ rfl)).cell (p := ⟨g, i, none⟩) (Nat.lt_of_lt_of_le hgW HB3.out.size) hgn).trans ((HB3.out.cell (p := ⟨g, i, none⟩) hgW).trans (HP.out i hi))
    · have := HB3.out.size
      simp
      omega
    · exact (((((HB.out.trans (HB3.out.mono (by omega))).setCell (by simp) _).setCell (by simp) _).setCell (by simp) _).setCell (by simp) _).setCell (by simp) _
  case done =>
    rintro D ys W hD hys ⟨⟨hS, hR, _, _⟩, hB⟩ hK
    have hst : foldB p (ys.map (·.1)) = shaSt p m := by rw [hys, HN.out, foldB_range]
    rw [hst] at hS
    have HS := Lib.hid hS
    have HR := Lib.hid hR
    have HB := Lib.hid hB
    have HK := Lib.hid hK
    have hzW := hB.size
    obtain ⟨c0, c1', c2, c3, c4⟩ := hS.five
    have hin := shaSt_in p m
    clear hys hst hS hR hB hK sR sS sP sB hb0 hb1
    generalize shaSt p m = st at *
    have HIX := Lib.hid (fun k V (hk : k < 5) => index5 st.list k rfl hk V)
    have HIN := Lib.hid (fun k (hk : k < 5) => In_get hin k hk)
    have HPS := Lib.hid (fun k (hk : k < 5) => bytesPre_succ st k hk)
    have HPL := Lib.hid (fun k (hk : k ≤ 5) => bytesPre_length st k hk)
    clear hin
    gi_wp2_with fail
    gi_loopw [5, 21] (fun v i wr => ∃ (k : Nat) (a' : Option Addr) (m' c' : Nat), k ≤ 5 ∧ i = .int .i64 k ∧ v = .slice a' m' c' ∧ m' = 4 * k ∧ wr.ownsRow W.heap.size 5 1 (.slice a' m' c') m' ((bytesPre st k).map (Value.int .u8)) ∧ Below W.heap.size W wr) (fun _ i _ => 5 - (intOf i).toNat)
    case atStart => exact ⟨0, none, 0, 0, Nat.zero_le _, rfl, rfl, rfl, World.ownsRow_nil _ _ _ _, Below.refl _ _⟩
    case round =>
      clear c0 c1' c2 c3 c4
      obtain ⟨k, a', m', c', hk, rfl, rfl, hm', ho, hb⟩ := hrel
      have HO := Lib.hid ho
      have HBW := Lib.hid hb
      have hsz := hb.size
      clear ho hb
      by_cases hlk : k < 5
      · have hix : ∀ V, (Instr.index 189 (.agg #[.int .u32 st.a, .int .u32 st.b, .int .u32 st.c, .int .u32 st.d, .int .u32 st.e]) (.int .i64 k)).run Tryz.prog V = .ok (.int .u32 (st.list.getD k 0)) V := fun V => HIX.out k V hlk
        have hin := HIN.out k hlk
        have HSU := Lib.hid (HPS.out k hlk)
        generalize st.list.getD k 0 = x at hix hin HSU
        obtain ⟨x0, x1⟩ := hin
        have KA := Lib.hid (appendHigh_any W.heap.size a' m' c' (bytesPre st k) x 4 wr (by omega) x0 (by omega) (by omega) hsz HO.out)
        rw [show ((4 : Nat) : Int) = 4 from rfl] at KA
        unfold PutRes at KA
        have HOWNB := Lib.hid (show ∀ q, (Value.slice a' m' c').ownBlock = some q → W.heap.size ≤ q from fun q hq => (HO.out.lt q hq).1)
        have HM := Lib.hid hm'
        clear hm'
        gi_wp2_with fail
        refine ⟨trivial, (callsIn_wide.2 KA.out).mono ?_⟩
        rintro e w3 ⟨a3, n3, c3, rfl, ho3, hg3⟩
        have hn3 : n3 = m' + 4 := by
          have h1 := owns_length ho3
          have h2 := owns_length HO.out
          rw [List.length_append, highs_length] at h1
          omega
        have HO3 := Lib.hid ho3
        have HB3 := Lib.hid (HBW.out.grown hg3 hsz HOWNB.out)
        have HN3 := Lib.hid hn3
        clear ho3 hg3 hix hn3
        gi_wp2
        go_roundw
        case rel => exact ⟨k + 1, a3, n3, c3, by omega, by go_num, rfl, by have := HM.out; have := HN3.out; omega, by rw [HSU.out]; exact HO3.out, HB3.out⟩
        case measure => simp [intOf]; omega
      · obtain rfl : k = 5 := by omega
        have hR3 := HR.out.below HBW.out
        have hK3 : wr.heap[D]? = some (.deferred (some [])) := (HBW.out.block D (Array.getElem?_eq_some_iff.1 HK.out).1).trans HK.out
        have g0 := hR3.cell0
        have g1 := hR3.cell1
        have gf := hR3.free
        have HR3 := Lib.hid hR3
        have HK3 := Lib.hid hK3
        clear hR3 hK3 hm'
        gi_wp2
        have hR4 := HR3.out.set 0 (.slice a' m' c')
        have hK' := ((KeepsOthers.setCell wr ⟨w.heap.size, 0, none⟩ (.int .i64 0)).trans (KeepsOthers.setCell _ ⟨w.heap.size, 1, none⟩ (.slice a' m' c'))).same D _ HK3.out rfl
        refine ⟨by simp, .inl ⟨_, _, rfl, run_takeDeferred hK', ?_⟩⟩
        have hd0 := cell_kept hR4.cell0 (grownBy_putObj' _ D (.deferred none)) (fun r e => by cases e; exact ⟨_, hK', rfl⟩)
        have hd1 := cell_kept hR4.cell1 (grownBy_putObj' _ D (.deferred none)) (fun r e => by cases e; exact ⟨_, hK', rfl⟩)
        refine ⟨.agg #[.int .i64 0, .slice a' m' c'], ?_, a', m', c', rfl, ?_, (((HB.out.trans (HBW.out.mono hzW)).setCell (p := ⟨w.heap.size, 0, none⟩) (Nat.le_refl _) _).setCell (p := ⟨w.heap.size, 1, none⟩) (Nat.le_refl _) _).trans (belowK_b (w := w) (Nat.le_refl _) _ D _ _ (by omega) hK' rfl rfl)⟩
        · simp [results, Tryz.f94, go_sem, hd0, hd1]
        · rw [HSH.out]
          have h1 := owns_mono HO.out hzW
          have h2 : (wr.setCell ⟨w.heap.size, 0, none⟩ (.int .i64 0)).ownsRow W.heap.size 5 1 (.slice a' m' c') m' ((bytesPre st 5).map (Value.int .u8)) := owns_set_below HO.out _ (by have := HR.out.lt; simpa using this) _
          have h3 := owns_set_below h2 ⟨w.heap.size, 1, none⟩ (by have := HR.out.lt; simpa using this) (.slice a' m' c')
          exact owns_mono (ownsRow_putObj h3 _ hK' rfl) hzW
  case stop =>
    rintro D c pre W hD hpre ⟨h, _⟩ hK
    exact h.elim

/-- the program's Sha1Of -/
theorem implSha1Of_any (a : Option Addr) (n c : Nat) (xs : List Int) (w : World) (hm : n ≤ 1048576) (hnil : a = none → c = 0) (h : InRow w a n c xs) :
    Calls Tryz.prog 94 #[.slice a n c] w (OwnsRes2 w 5 .u8 (shaCode xs) (shaBytes xs)) := by
  have hl := h.len
  unfold shaCode shaBytes
  rw [hl]
  by_cases h3 : 3000 < n
  · rw [if_pos h3, if_pos h3]
    clear hl h hnil
    go_enter Tryz.func94, Tryz.ntmps94
    go_wp2
    exact bodyPost_ret (v := .agg #[.int .i64 2, .slice none 0 0]) (by simp [results, Tryz.results94, go_sem]) rfl
      ⟨none, 0, 0, rfl, World.ownsRow_nil _ _ _ _, below1 _ _⟩
  · rw [if_neg h3, if_neg h3]
    exact callsIn_wide.1 (implSha1Of_in a n c xs w (by omega) hnil h)
end Go.Proofs.YtcaknhoaoodbfaaGreatDoor
