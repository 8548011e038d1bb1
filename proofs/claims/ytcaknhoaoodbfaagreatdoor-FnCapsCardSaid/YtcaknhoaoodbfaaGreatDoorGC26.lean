/- Contract of the program's TextFault. -/
import Derived.Test.YtcaknhoaoodbfaaGreatDoorGC25
import Derived.Test.YtcaknhoaoodbfaaGreatDoorGC9
import Derived.Lib.IndexAny
namespace Go.Proofs.YtcaknhoaoodbfaaGreatDoor
open Go.RowKit Go.Shelf
set_option linter.unusedVariables false

attribute [local go_sem] Oper.semAt_some

theorem bool_int {a b : Int} (h : a = b) : Ending.returned (.int .i64 a) = .returned (.int .i64 b) := by rw [h]
def cfault (b : Bool) : Int := if b then 0 else 5
theorem prefix_bad {l : List UInt8} {pre : List (Int × Bool)} (hp : pre <+: strm l) (hb : pre.all goodB = false) : charsB l = false := by
  unfold charsB
  rw [Bool.eq_false_iff] at hb ⊢
  intro h
  apply hb
  rw [List.all_eq_true] at h ⊢
  exact fun x hx => h x (hp.subset hx)

set_option maxRecDepth 100000 in
set_option maxHeartbeats 4000000 in
theorem implTextFault_in (s : ByteArray) (hs : s.size ≤ 60) (w : World) (hT : Tabs w) :
    CallsIn Fence.wide 6 Tryz.prog 79 #[.string s] w fun e W' => e = .returned (.int .i64 (cfault (charsB s.data.toList))) ∧ Below w.heap.size w W' := by
  refine callsIn_of_wp_marks Tryz.func79 rfl trivial ?_ rfl
  simp only [Tryz.ntmps79, List.size_toArray, List.length_cons, List.length_nil, Nat.reduceAdd, Nat.reduceSub, Array.replicate_succ, Array.replicate_zero, List.push_toArray, List.append_toArray, List.nil_append, List.cons_append]
  gi_wp2_with (refine ⟨trivial, ?_⟩; gi_at_call 141; refine (pointsIn_in _ _ _).mono ?_; rintro e w' ⟨rfl, rfl⟩)
  have bR := Boxed.new w 2 (.int .i64 0)
  have bT := Boxed.new (w.alloc (.cells #[.int .i64 0] 2)) 9 (.string s)
  rw [World.size_alloc] at bT
  have hB0 : Below w.heap.size w ((w.alloc (.cells #[.int .i64 0] 2)).alloc (.cells #[.string s] 9)) := below2 w _ _
  refine wpIn_rangeFunc_ownF rfl (by omega) (gf := 198) (lb := #[.pointer (some ⟨w.heap.size + 1, 0, none⟩)]) rfl trivial (enters_of Tryz.func198 (by kernel_rfl) rfl)
    (iter_stops _ (by omega) (w.heap.size + 1) w.heap.size s (by omega) (gs_of_tabs hT) _ (by simp) (by simp; omega) bT.cell (tabs_kept hT hB0)) (fun h k => KpT.trans h k) (kpT_b (by simp; omega) (by simp)) (Below.refl _ _) (fun _ => rfl)
    (fun pre W => (pre.all goodB = true ∧ Boxed W w.heap.size 2 (.int .i64 0) ∧ Boxed W (w.heap.size + 1) 9 (.string s)) ∧ Below w.heap.size w W)
    (fun c pre W => (c = .ret ∧ pre.all goodB = false ∧ Boxed W w.heap.size 2 (.int .i64 5)) ∧ Below w.heap.size w W)
    (OwnFrom.and (Own.from (fun s A B row hs hg hr => ⟨hs.1, hs.2.1.kept hg (fun e => by obtain ⟨o, ho, hc⟩ := hr _ e.symm; rw [show A.heap[_]? = _ from hs.2.1] at ho; cases ho; cases hc), hs.2.2.kept hg (fun e => by obtain ⟨o, ho, hc⟩ := hr _ e.symm; rw [show A.heap[_]? = _ from hs.2.2] at ho; cases ho; cases hc)⟩) _) (ownFrom_below (Nat.le_refl _) (by simp; omega)))
    (fun c => OwnFrom.and (Own.from (fun s A B row hs hg hr => ⟨hs.1, hs.2.1, hs.2.2.kept hg (fun e => by obtain ⟨o, ho, hc⟩ := hr _ e.symm; rw [show A.heap[_]? = _ from hs.2.2] at ho; cases ho; cases hc)⟩) _) (ownFrom_below (Nat.le_refl _) (by simp; omega)))
    ⟨⟨rfl, bR.alloc _, bT⟩, hB0⟩
    (fun x => { tmps := #[.string s, undef, .pointer (some ⟨w.heap.size, 0, none⟩), .int .i64 x.1, .bool x.2, .string s, .int .i64 s.size, .bool (decide ((60 : Int) < (s.size : Int))), .string s, .func (.func 198) #[] #[.pointer (some ⟨w.heap.size + 1, 0, none⟩)], .int .i64 x.1, .bool x.2, undef, undef, undef, undef, undef, undef, undef], defers := [] }) ?assign ?body ?done ?stop
  case assign =>
    intro l x W K hK
    unfold encP
    gi_wp2
    exact hK
  case body =>
    rintro l pre ⟨p, ok⟩ W ⟨⟨hall, hR, hTx⟩, hB⟩ _
    have hc := hR.cell
    have hf := hR.frozen
    have HA := Lib.hid hall
    clear hall
    cases ok
    · gi_wp2
      refine ⟨trivial, ?_⟩
      gi_wp2
      exact ⟨KeepsOthers.setCell _ _ _, ⟨rfl, by rw [List.all_append, HA.out]; rfl, hR.set _⟩, hB.setCell (p := ⟨w.heap.size, 0, none⟩) (Nat.le_refl _) _⟩
    · cases hcb : charB p
      · have HC := Lib.hid hcb
        gi_wp2_with (refine ⟨trivial, ?_⟩; gi_at_call 142; refine (CallsIn.inRound l (callsIn_wide.2 (implIsChar_any p _))).mono ?_; rintro e w1 ⟨rfl, hb1⟩; have hR1 : Boxed w1 w.heap.size 2 (.int .i64 0) := (hb1.block _ hR.lt).trans hR; have hc1 := hR1.cell; have hf1 := hR1.frozen)
        exact ⟨(keeps_below hb1).trans (KeepsOthers.setCell _ _ _), ⟨rfl, by rw [List.all_append, HA.out]; simp [goodB, HC.out], hR1.set _⟩, (hB.trans (hb1.mono hB.size)).setCell (p := ⟨w.heap.size, 0, none⟩) (Nat.le_refl _) _⟩
      · have HC := Lib.hid hcb
        gi_wp2_with (refine ⟨trivial, ?_⟩; gi_at_call 142; refine (CallsIn.inRound l (callsIn_wide.2 (implIsChar_any p _))).mono ?_; rintro e w1 ⟨rfl, hb1⟩)
        exact ⟨keeps_below hb1, KpT.of_below hb1 hB.size hTx.lt, ⟨by rw [List.all_append, HA.out]; simp [goodB, HC.out], (hb1.block _ hR.lt).trans hR, (hb1.block _ hTx.lt).trans hTx⟩, hB.trans (hb1.mono hB.size)⟩
  case done =>
    rintro D ys W hD rfl ⟨⟨hall, hR, hTx⟩, hB⟩ hK
    have hc := hR.cell
    have hf := hR.frozen
    gi_wp2
    have hK' := (KeepsOthers.setCell W ⟨w.heap.size, 0, none⟩ (.int .i64 0)).same D _ hK rfl
    refine ⟨by simp, .inl ⟨_, _, rfl, run_takeDeferred hK', ?_⟩⟩
    have hc5 := cell_kept (hR.set (.int .i64 0)).cell (grownBy_putObj' _ D (.deferred none)) (fun r e => by cases e; exact ⟨_, hK', rfl⟩)
    refine ⟨.int .i64 0, ?_, bool_int (by unfold charsB; rw [hall]; rfl), (hB.setCell (p := ⟨w.heap.size, 0, none⟩) (Nat.le_refl _) _).trans (belowK_b (w := w) (Nat.le_refl _) _ D _ _ (by simp at hD; omega) hK' rfl rfl)⟩
    simp [results, Tryz.f79, go_sem, hc5]
  case stop =>
    rintro D c pre W hD hpre ⟨⟨rfl, hbad, hR⟩, hB⟩ hK
    gi_wp2
    refine ⟨by simp, .inl ⟨_, _, rfl, run_takeDeferred hK, ?_⟩⟩
    have hc5 := cell_kept hR.cell (grownBy_putObj' _ D (.deferred none)) (fun r e => by cases e; exact ⟨_, hK, rfl⟩)
    refine ⟨.int .i64 5, ?_, bool_int (by rw [prefix_bad hpre hbad]; rfl), hB.trans (belowK_b (w := w) (Nat.le_refl _) W D _ _ (by simp at hD; omega) hK rfl rfl)⟩
    simp [results, Tryz.f79, go_sem, hc5]

/-- the program's TextFault -/
theorem implTextFault_any (s : ByteArray) (hs : s.size ≤ maxLen) (w : World) (hT : Tabs w) :
    Calls Tryz.prog 79 #[.string s] w fun e w' => e = .returned (.int .i64 (textFault s.data.toList)) ∧ Below w.heap.size w w' := by
  have hl : s.data.toList.length = s.size := by simp
  unfold textFault
  rw [hl]
  by_cases h : 60 < s.size
  · rw [if_pos h]
    clear hl
    unfold maxLen at hs
    go_enter Tryz.func79, Tryz.ntmps79
    go_wp2
    exact bodyPost_ret (v := .int .i64 2) (by simp [results, Tryz.results79, go_sem]) rfl ⟨rfl, below1 w _⟩
  · rw [if_neg h]
    exact callsIn_wide.1 (implTextFault_in s (by omega) w hT)
end Go.Proofs.YtcaknhoaoodbfaaGreatDoor

/- impl.isField, impl.isFilledField, impl.hasFields. -/
namespace Go.Proofs.YtcaknhoaoodbfaaGreatDoor
open Go.ChangeShapes Go.WideShapes Go.ChangeAt Go.RowKit Go.Shelf
set_option linter.unusedVariables false

theorem hasB_index (s : ByteArray) (c : UInt8) : decide (0 ≤ Lib.indexByte s.data.toList c) = hasB (c.toNat : Int) s := by
  rw [← Lib.contains_iff_indexByte, List.contains_eq_any_beq]
  unfold hasB
  congr 1
  funext x
  rw [Bool.eq_iff_iff, beq_iff_eq, beq_iff_eq]
  constructor
  · rintro rfl; rfl
  · intro h
    exact (UInt8.toNat_inj.1 (by omega)).symm
theorem implContains_any (s : ByteArray) (c : UInt8) (cc : Int) (hc : (c.toNat : Int) = cc) (w : World) :
    Calls Tryz.prog 175 #[.string s, .string ⟨#[c]⟩] w fun e w' => e = .returned (.bool (hasB cc s)) ∧ w' = w := by
  refine (Tryz.strings_Contains_one s c w).mono ?_
  rintro e w' ⟨rfl, rfl⟩
  exact ⟨ret_bool (by rw [hasB_index, hc]), rfl⟩

set_option maxHeartbeats 800000 in
theorem isField_any (s : ByteArray) (w : World) (hs : s.size ≤ maxLen) (hT : Tabs w) :
    Calls Tryz.prog 174 #[.string s] w fun en w' => en = .returned (.bool (fldB s)) ∧ Below w.heap.size w w' := by
  have KT := Lib.hid (implTextFault_any s hs w hT)
  have K6 := Lib.hid (fun W => implContains_any s 60 60 rfl W)
  unfold fldB
  generalize textFault s.data.toList = tf at KT ⊢
  generalize hasB 60 s = b6 at K6 ⊢
  obtain ⟨q, hq⟩ : ∃ q, (tf == 0) = q := ⟨_, rfl⟩
  rw [hq]
  clear hs hT
  cases q
  · go_enter Tryz.func174, Tryz.ntmps174
    go_wp2_with fail
    refine KT.out.mono ?_
    rintro en w1 ⟨rfl, hb1⟩
    have B1 := Lib.hid hb1
    clear hb1
    go_wp2
    go_ret
    exact ⟨ret_bool (by simp), B1.out⟩
  · go_enter Tryz.func174, Tryz.ntmps174
    go_wp2_with fail
    refine KT.out.mono ?_
    rintro en w1 ⟨rfl, hb1⟩
    have B1 := Lib.hid hb1
    clear hb1
    go_wp2_with fail
    refine (K6.out _).mono ?_
    rintro en w2 ⟨rfl, rfl⟩
    go_wp2
    go_ret
    exact ⟨ret_bool (by simp), B1.out⟩

set_option maxHeartbeats 800000 in
theorem isFilledField_any (s : ByteArray) (w : World) (hs : s.size ≤ maxLen) (hT : Tabs w) :
    Calls Tryz.prog 104 #[.string s] w fun en w' => en = .returned (.bool (fillB s)) ∧ Below w.heap.size w w' := by
  have KT := Lib.hid (isField_any s w hs hT)
  unfold fillB
  generalize fldB s = b6 at KT ⊢
  obtain ⟨em, hem⟩ : ∃ em, s.toList.isEmpty = em := ⟨_, rfl⟩
  rw [hem]
  clear hs hT
  cases em
  · go_enter Tryz.func104, Tryz.ntmps104
    go_wp2_with fail
    refine KT.out.mono ?_
    rintro en w1 ⟨rfl, hb1⟩
    have B1 := Lib.hid hb1
    clear hb1
    go_wp2
    go_ret
    exact ⟨ret_bool (by simp), B1.out⟩
  · go_enter Tryz.func104, Tryz.ntmps104
    go_wp2
    go_ret
    exact ⟨ret_bool (by simp), Below.refl _ _⟩

set_option maxRecDepth 100000 in
set_option maxHeartbeats 3200000 in
theorem hasFields_any (x : Ident) (w : World) (hs : SmallId x) (hT : Tabs w) :
    Calls Tryz.prog 100 #[.agg #[.string x.cat, .string x.kind, .string x.lang, .string x.name]] w fun en w' => en = .returned (.bool (identB x)) ∧ Below w.heap.size w w' := by
  have K1 := Lib.hid (fun W (hb : Below w.heap.size w W) => isFilledField_any x.cat W (by have := hs.1; unfold maxLen; omega) (tabs_kept hT hb))
  have K2 := Lib.hid (fun W (hb : Below w.heap.size w W) => isFilledField_any x.kind W (by have := hs.2.1; unfold maxLen; omega) (tabs_kept hT hb))
  have K3 := Lib.hid (fun W (hb : Below w.heap.size w W) => isField_any x.lang W (by have := hs.2.2.1; unfold maxLen; omega) (tabs_kept hT hb))
  have K4 := Lib.hid (fun W (hb : Below w.heap.size w W) => isField_any x.name W (by have := hs.2.2.2; unfold maxLen; omega) (tabs_kept hT hb))
  have K5 := Lib.hid (fun W => implContains_any (x.cat ++ x.kind ++ x.lang) 47 47 rfl W)
  rw [← identB_eq]
  unfold identB'
  obtain ⟨h1, h2, h3, h4⟩ := hs
  obtain ⟨s, t, u, v⟩ := x
  dsimp only at K1 K2 K3 K4 K5 h1 h2 h3 h4 ⊢
  generalize fillB s = b1 at K1 ⊢
  generalize fillB t = b2 at K2 ⊢
  generalize fldB u = b3 at K3 ⊢
  generalize fldB v = b4 at K4 ⊢
  generalize hasB 47 (s ++ t ++ u) = b5 at K5 ⊢
  clear hT
  have X := IdAt.new w 54 ⟨s, t, u, v⟩
  have X0 := Lib.hid X
  clear X
  go_enter Tryz.func100, Tryz.ntmps100
  go_wp2_with fail
  refine (K1.out _ (below1 _ _)).mono ?_
  rintro en w1 ⟨rfl, hb1⟩
  have B1 := Lib.hid (below_then (below1 _ _) hb1)
  have X1 := X0.out.below hb1
  have d1 := X1.c1
  have X1 := Lib.hid X1
  clear hb1
  cases b1
  · go_wp2
    go_ret
    exact ⟨ret_bool (by simp), B1.out⟩
  go_wp2_with fail
  refine (K2.out _ B1.out).mono ?_
  rintro en w2 ⟨rfl, hb2⟩
  have B2 := Lib.hid (below_then B1.out hb2)
  have X2 := X1.out.below hb2
  have d2 := X2.c2
  have X2 := Lib.hid X2
  clear hb2
  cases b2
  · go_wp2
    go_ret
    exact ⟨ret_bool (by simp), B2.out⟩
  go_wp2_with fail
  refine (K3.out _ B2.out).mono ?_
  rintro en w3 ⟨rfl, hb3⟩
  have B3 := Lib.hid (below_then B2.out hb3)
  have X3 := X2.out.below hb3
  have d3 := X3.c3
  have X3 := Lib.hid X3
  clear hb3
  cases b3
  · go_wp2
    go_ret
    exact ⟨ret_bool (by simp), B3.out⟩
  go_wp2_with fail
  refine (K4.out _ B3.out).mono ?_
  rintro en w4 ⟨rfl, hb4⟩
  have B4 := Lib.hid (below_then B3.out hb4)
  have X4 := X3.out.below hb4
  have e0 := X4.c0
  have e1 := X4.c1
  have e2 := X4.c2
  have X4 := Lib.hid X4
  clear hb4
  cases b4
  · go_wp2
    go_ret
    exact ⟨ret_bool (by simp), B4.out⟩
  go_wp2_with fail
  refine (K5.out _).mono ?_
  rintro en w5 ⟨rfl, rfl⟩
  go_wp2
  go_ret
  exact ⟨ret_bool (by simp), B4.out⟩
end Go.Proofs.YtcaknhoaoodbfaaGreatDoor
