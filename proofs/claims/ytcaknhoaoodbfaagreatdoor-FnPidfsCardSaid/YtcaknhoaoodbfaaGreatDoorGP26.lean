/- The iterator over the points of a text. -/
import Derived.RangeFuncNested
import Derived.RangeFuncBound
import Derived.RangeFuncCalls
import Derived.RangeFuncLeaves
import Derived.RangeFuncBox
import Derived.Maps.AppendAt
import Derived.Shelf.Abstract
import Derived.Shelf.RegionOpen
import Derived.WalkKit
import Derived.OwnWalkIn
import Derived.TacticsInMore
import Derived.LoopNIn
import Derived.LoopIn
import Derived.Test.YtcaknhoaoodbfaaGreatDoorGP7
import Derived.Test.YtcaknhoaoodbfaaGreatDoorGP2
import Derived.WalkLawsBesides
import Derived.Test.YtcaknhoaoodbfaaGreatDoorGP25
import Derived.Test.YtcaknhoaoodbfaaGreatDoorGP0
import Derived.Deep.DeepCutAuto
namespace Go.Proofs.YtcaknhoaoodbfaaGreatDoor
open Go.RowKit Go.Shelf
set_option linter.unusedVariables false
attribute [local go_sem] Oper.semAt_some
structure GsLt (B : Nat) : Prop where
  a : 0 < B
  b : 1 < B
theorem GsLt.mono {B B' : Nat} (h : GsLt B) (hle : B ≤ B') : GsLt B' := ⟨Nat.lt_of_lt_of_le h.a hle, Nat.lt_of_lt_of_le h.b hle⟩
abbrev Tabs (w : World) : Prop := Lib.Utf8Tabs 0 1 w
theorem cell_some_lt {w : World} {a : Addr} {v : Value} (h : w.cell? a = some v) : a.block < w.heap.size := by
  unfold World.cell? at h
  rcases Nat.lt_or_ge a.block w.heap.size with h1 | h1
  · exact h1
  · rw [Array.getElem?_eq_none h1] at h
    simp at h
theorem gs_of_tabs {w : World} (h : Tabs w) : GsLt w.heap.size :=
  ⟨cell_some_lt (h.1 0 (by decide)), cell_some_lt (h.2 0 (by decide)).1⟩
theorem tabs_below {B : Nat} {w w' : World} (h : Tabs w) (hb : Below B w w') (hB : GsLt B) : Tabs w' :=
  ⟨fun c hc => (hb.cell (p := ⟨0, c, none⟩) hB.a).trans (h.1 c hc),
   fun i hi => ⟨(hb.cell (p := ⟨1, 2 * i, none⟩) hB.b).trans (h.2 i hi).1, (hb.cell (p := ⟨1, 2 * i + 1, none⟩) hB.b).trans (h.2 i hi).2⟩⟩
theorem tabs_kept {w w' : World} (h : Tabs w) (hb : Below w.heap.size w w') : Tabs w' := tabs_below h hb (gs_of_tabs h)
theorem decodeGo_L (u : ByteArray) (h : 0 < u.size) : Lib.decodeGo u = Lib.decodeL u.data.toList := by
  unfold Lib.decodeGo
  rw [if_neg (by omega)]
  have := Lib.decodeL_drop u 0
  rw [List.drop_zero] at this
  exact this.symm
theorem decodeL_bound (l : List UInt8) : (Lib.decodeL l).1 ≤ 1114111 := by
  rw [Lib.decodeL_N]
  have k0 := (l.getD 0 0).toNat_lt
  have k1 := (l.getD 1 0).toNat_lt
  have k2 := (l.getD 2 0).toNat_lt
  have k3 := (l.getD 3 0).toNat_lt
  rcases Lib.decodeN_shape l.length (l.getD 0 0).toNat (l.getD 1 0).toNat (l.getD 2 0).toNat (l.getD 3 0).toNat with ⟨c, e⟩ | ⟨c1, c2, c3, cv, e⟩ | ⟨c1, c2, c3, c4, cv, cs, e⟩ | ⟨c1, c2, c3, c4, c5, cv, cw, e⟩ | e
  all_goals (rw [e]; dsimp only; omega)
theorem decode_at' (s : ByteArray) (pos : Nat) (hp : pos < s.size) (w : World) (hT : Tabs w) :
    Calls Tryz.prog 199 #[.string (s.extract pos s.size)] w fun e w' =>
      e = .returned (.tuple #[.int .i32 ((Lib.decodeL (s.data.toList.drop pos)).1 : Int), .int .i64 ((Lib.decodeL (s.data.toList.drop pos)).2 : Int)]) ∧ Below w.heap.size w w' := by
  have h := Tryz.utf8_DecodeRuneInString (s.extract pos s.size) w hT
  rw [decodeGo_L _ (by rw [ByteArray.size_extract]; omega), Lib.extract_to_end] at h
  exact h
structure KpT (n₀ Bs : Nat) (W W' : World) : Prop where
  bel : Below n₀ W W'
  box : W'.heap[Bs]? = W.heap[Bs]?
theorem KpT.refl (n₀ Bs : Nat) (W : World) : KpT n₀ Bs W W := ⟨Below.refl _ _, rfl⟩
theorem KpT.trans {n₀ Bs : Nat} {A B C : World} (h : KpT n₀ Bs A B) (k : KpT n₀ Bs B C) : KpT n₀ Bs A C := ⟨h.bel.trans k.bel, k.box.trans h.box⟩
theorem KpT.of_below {n₀ Bs : Nat} {W W' : World} (h : Below W.heap.size W W') (hn : n₀ ≤ W.heap.size) (hB : Bs < W.heap.size) : KpT n₀ Bs W W' := ⟨h.mono hn, h.block Bs hB⟩
theorem KpT.cell {n₀ Bs : Nat} {W W' : World} (h : KpT n₀ Bs W W') (o : Nat) : W'.cell? ⟨Bs, o, none⟩ = W.cell? ⟨Bs, o, none⟩ := World.cell?_of_block (w := W) h.box
theorem kpT_b {n₀ Bs : Nat} {w : World} (hn : n₀ ≤ w.heap.size) (hB : Bs < w.heap.size) (W : World) (l : Nat) (o o' : Obj) (hl : w.heap.size ≤ l) (h : W.heap[l]? = some o) (h1 : o.isCells = false) (h2 : o.isWalk = false) : KpT n₀ Bs W (W.putObj l o') :=
  ⟨belowK_b hn W l o o' hl h h1 h2, World.putObj_heap_other (by omega)⟩
def encP (x : Int × Bool) : Array Value := #[.int .i64 x.1, .bool x.2]
set_option maxRecDepth 100000 in
set_option maxHeartbeats 4000000 in
theorem iter_in (n : Nat) (hn : 1 ≤ n) (l Bs n₀ : Nat) (s : ByteArray) (hs : s.size ≤ 1048576) (h2 : GsLt n₀) (B : Nat) (J Jx : List (Int × Bool) → World → Prop) (hJ : AbidesFrom B J)
    (hY : ∀ pre x W, J pre W → pre.length < (strm s.data.toList).length → YieldAt Fence.wide (n - 1) Tryz.prog l (encP x) W fun e W' =>
      (e = .returned (.bool true) ∧ J (pre ++ [x]) W' ∧ KpT n₀ Bs W W') ∨ (e = .returned (.bool false) ∧ Jx (pre ++ [x]) W'))
    (W : World) (hW : n₀ ≤ W.heap.size) (hBn : Bs < W.heap.size) (hBs : W.cell? ⟨Bs, 0, none⟩ = some (.string s)) (hT : Tabs W) (h0 : J [] W) :
    CallsIn Fence.wide n Tryz.prog 198 #[.func (.yield l) #[] #[], .pointer (some ⟨Bs, 0, none⟩)] W fun e W' => (∃ v, e = .returned v) ∧
      ((∃ ys, ys = strm s.data.toList ∧ J ys W') ∨ (∃ pre, pre <+: strm s.data.toList ∧ Jx pre W')) := by
  refine callsIn_of_wp Tryz.func198 rfl trivial ?_ rfl
  simp only [Tryz.ntmps198, List.size_toArray, List.length_cons, List.length_nil, Nat.reduceAdd, Nat.reduceSub, Array.replicate_succ, Array.replicate_zero, List.push_toArray, List.append_toArray, List.nil_append, List.cons_append]
  gi_wp2
  gi_loopw [3] (fun i wr => ∃ (pos : Nat) (pre : List (Int × Bool)), pos ≤ s.size ∧ i = .int .i64 pos ∧ strm s.data.toList = pre ++ strm (s.data.toList.drop pos) ∧ J pre wr ∧ KpT n₀ Bs W wr)
    (fun i _ => s.size - (intOf i).toNat)
  case atStart => exact ⟨0, [], Nat.zero_le _, rfl, rfl, h0, KpT.refl _ _ _⟩
  case round =>
    obtain ⟨pos, pre, hpos, rfl, hst, hJs, hnx⟩ := hrel
    have hBs' : wr.cell? ⟨Bs, 0, none⟩ = some (.string s) := (hnx.cell 0).trans hBs
    have HT := Lib.hid (tabs_below hT hnx.bel h2)
    have HW := Lib.hid (Nat.le_trans hW hnx.bel.size)
    have HST := Lib.hid hst
    have HNX := Lib.hid hnx
    have hBw : Bs < wr.heap.size := Nat.lt_of_lt_of_le hBn hnx.bel.size
    clear hst hnx
    by_cases hlt : pos < s.size
    · have hne : s.data.toList.drop pos ≠ [] := by
        intro h
        have := congrArg List.length h
        rw [List.length_drop, show s.data.toList.length = s.size by simp] at this
        simp at this
        omega
      have K := Lib.hid (fun WW (hTT : Tabs WW) => callsIn_wide (n := n - 1).2 (decode_at' s pos hlt WW hTT))
      have hwd := Lib.decodeL_width (s.data.toList.drop pos)
      have hle := Lib.decodeL_le (s.data.toList.drop pos) hne
      rw [List.length_drop, show s.data.toList.length = s.size by simp] at hle
      have hbo := decodeL_bound (s.data.toList.drop pos)
      have hpl : pre.length < (strm s.data.toList).length := by
        rw [HST.out, List.length_append]
        cases hb : badB (s.data.toList.drop pos)
        · rw [strm_step _ hne hb, List.length_cons]; omega
        · rw [strm_bad _ hne hb, List.length_cons]; omega
      have HPL := Lib.hid hpl
      clear hpl
      cases hbd : badB (s.data.toList.drop pos)
      · have HN := Lib.hid (strm_step _ hne hbd)
        rw [List.drop_drop] at HN
        have hnb : ¬ ((Lib.decodeL (s.data.toList.drop pos)).1 = 65533 ∧ (Lib.decodeL (s.data.toList.drop pos)).2 = 1) := by
          unfold badB at hbd
          exact of_decide_eq_false hbd
        clear hne hbd
        generalize (Lib.decodeL (s.data.toList.drop pos)).1 = r at K hbo HN hnb
        generalize (Lib.decodeL (s.data.toList.drop pos)).2 = k at K hwd hle HN hnb
        have hr2 : (r : Int) ≤ 1114111 := by omega
        have hk2 : (pos : Int) + (k : Int) ≤ (s.size : Int) := by omega
        have hs2 : (s.size : Int) ≤ 1048576 := by omega
        by_cases hr : r = 65533
        · have hk1 : ((k : Int) == 1) = false := by rw [beq_eq_false_iff_ne]; omega
          have hr1 : ((r : Int) == 65533) = true := by rw [beq_iff_eq]; omega
          clear hr hnb
          gi_wp2_with fail
          refine ⟨trivial, (K.out _ HT.out).mono ?_⟩
          rintro e w1 ⟨rfl, hb1⟩
          have hJ1 : J pre w1 := hJ pre wr w1 none hJs ⟨hb1.os, hb1.tape, hb1.output, hb1.size, fun i hi _ => hb1.block i hi⟩ (fun r e => by cases e)
          have HN1 := Lib.hid (HNX.out.trans (KpT.of_below hb1 HW.out hBw))
          have hBs1 : w1.cell? ⟨Bs, 0, none⟩ = some (.string s) := (hb1.cell (p := ⟨Bs, 0, none⟩) hBw).trans hBs'
          obtain ⟨fn, tmps, assign, body, hy, hR⟩ := hY pre ((r : Int), true) w1 hJ1 HPL.out
          dsimp only [encP] at hy
          clear hb1 hY
          gi_wp2
          refine hR.mono ?_
          rintro e W3 (⟨rfl, hJ3, hk3⟩ | ⟨rfl, hJx3⟩)
          · gi_wp2
            go_roundw
            case rel => exact ⟨pos + k, pre ++ [((r : Int), true)], by omega, by go_num, by rw [HST.out, HN.out]; simp, hJ3, HN1.out.trans hk3⟩
            case measure => simp [intOf]; omega
          · gi_wp2
            refine bodyPost_ret (results_none rfl _ _ _) rfl ?_
            exact ⟨⟨_, rfl⟩, .inr ⟨pre ++ [((r : Int), true)], ⟨strm (s.data.toList.drop (pos + k)), by rw [HST.out, HN.out]; simp⟩, hJx3⟩⟩
        · have hr1 : ((r : Int) == 65533) = false := by rw [beq_eq_false_iff_ne]; omega
          clear hr hnb
          gi_wp2_with fail
          refine ⟨trivial, (K.out _ HT.out).mono ?_⟩
          rintro e w1 ⟨rfl, hb1⟩
          have hJ1 : J pre w1 := hJ pre wr w1 none hJs ⟨hb1.os, hb1.tape, hb1.output, hb1.size, fun i hi _ => hb1.block i hi⟩ (fun r e => by cases e)
          have HN1 := Lib.hid (HNX.out.trans (KpT.of_below hb1 HW.out hBw))
          have hBs1 : w1.cell? ⟨Bs, 0, none⟩ = some (.string s) := (hb1.cell (p := ⟨Bs, 0, none⟩) hBw).trans hBs'
          obtain ⟨fn, tmps, assign, body, hy, hR⟩ := hY pre ((r : Int), true) w1 hJ1 HPL.out
          dsimp only [encP] at hy
          clear hb1 hY
          gi_wp2
          refine hR.mono ?_
          rintro e W3 (⟨rfl, hJ3, hk3⟩ | ⟨rfl, hJx3⟩)
          · gi_wp2
            go_roundw
            case rel => exact ⟨pos + k, pre ++ [((r : Int), true)], by omega, by go_num, by rw [HST.out, HN.out]; simp, hJ3, HN1.out.trans hk3⟩
            case measure => simp [intOf]; omega
          · gi_wp2
            refine bodyPost_ret (results_none rfl _ _ _) rfl ?_
            exact ⟨⟨_, rfl⟩, .inr ⟨pre ++ [((r : Int), true)], ⟨strm (s.data.toList.drop (pos + k)), by rw [HST.out, HN.out]; simp⟩, hJx3⟩⟩
      · have HN := Lib.hid (strm_bad _ hne hbd)
        have hd : (Lib.decodeL (s.data.toList.drop pos)).1 = 65533 ∧ (Lib.decodeL (s.data.toList.drop pos)).2 = 1 := by
          unfold badB at hbd
          exact of_decide_eq_true hbd
        rw [hd.1, hd.2] at K
        clear hne hbd hd hwd hle hbo
        gi_wp2_with fail
        refine ⟨trivial, (K.out _ HT.out).mono ?_⟩
        rintro e w1 ⟨rfl, hb1⟩
        have hJ1 : J pre w1 := hJ pre wr w1 none hJs ⟨hb1.os, hb1.tape, hb1.output, hb1.size, fun i hi _ => hb1.block i hi⟩ (fun r e => by cases e)
        have HN1 := Lib.hid (HNX.out.trans (KpT.of_below hb1 HW.out hBw))
        have hBs1 : w1.cell? ⟨Bs, 0, none⟩ = some (.string s) := (hb1.cell (p := ⟨Bs, 0, none⟩) hBw).trans hBs'
        obtain ⟨fn, tmps, assign, body, hy, hR⟩ := hY pre ((0 : Int), false) w1 hJ1 HPL.out
        dsimp only [encP] at hy
        clear hb1 hY
        gi_wp2
        refine hR.mono ?_
        rintro e W3 (⟨rfl, hJ3, hk3⟩ | ⟨rfl, hJx3⟩)
        · gi_wp2
          refine bodyPost_ret (results_none rfl _ _ _) rfl ?_
          exact ⟨⟨_, rfl⟩, .inl ⟨_, by rw [HST.out, HN.out], hJ3⟩⟩
        · gi_wp2
          refine bodyPost_ret (results_none rfl _ _ _) rfl ?_
          exact ⟨⟨_, rfl⟩, .inr ⟨_, ⟨[], by rw [HST.out, HN.out]; simp⟩, hJx3⟩⟩
    · obtain rfl : pos = s.size := by omega
      gi_wp2
      go_end0
      refine ⟨⟨_, rfl⟩, .inl ⟨pre, ?_, hJs⟩⟩
      have h := HST.out
      rw [List.drop_eq_nil_of_le (by rw [show s.data.toList.length = s.size by simp]; exact Nat.le_refl _), strm_nil, List.append_nil] at h
      exact h.symm
theorem pointsIn_in (n : Nat) (s : ByteArray) (w : World) :
    CallsIn Fence.wide n Tryz.prog 141 #[.string s] w fun e w' => e = .returned (.func (.func 198) #[] #[.pointer (some ⟨w.heap.size, 0, none⟩)]) ∧ w' = w.alloc (.cells #[.string s] 9) := by
  refine callsIn_of_wp Tryz.func141 rfl trivial ?_ rfl
  simp only [Tryz.ntmps141, List.size_toArray, List.length_cons, List.length_nil, Nat.reduceAdd, Nat.reduceSub, Array.replicate_succ, Array.replicate_zero, List.push_toArray, List.append_toArray, List.nil_append, List.cons_append]
  gi_wp2
  go_ret
  exact ⟨rfl, rfl⟩
theorem iter_stops (n : Nat) (hn : 1 ≤ n) (Bs n₀ : Nat) (s : ByteArray) (hs : s.size ≤ 1048576) (h2 : GsLt n₀) (w : World) (hB : Bs < w.heap.size) (hn₀ : n₀ ≤ w.heap.size) (hc : w.cell? ⟨Bs, 0, none⟩ = some (.string s))
    (hT : Tabs w) :
    SeqStopsK Fence.wide n Tryz.prog 198 #[.pointer (some ⟨Bs, 0, none⟩)] encP (KpT n₀ Bs) (fun ys => ys = strm s.data.toList) (fun pre => pre <+: strm s.data.toList) (strm s.data.toList).length w :=
  fun l J Jx W hW hJ hJx hY h0 =>
    iter_in n hn l Bs n₀ s hs h2 W.heap.size J Jx hJ hY W (Nat.le_trans hn₀ hW.size) (Nat.lt_of_lt_of_le hB hW.size) ((hW.cell (p := ⟨Bs, 0, none⟩) hB).trans hc) (tabs_kept hT hW) h0
theorem keeps_below {W W' : World} (h : Below W.heap.size W W') : KeepsOthers W W' :=
  ⟨h.size, fun k o hk _ => (h.block k (Array.getElem?_eq_some_iff.1 hk).1).trans hk⟩
attribute [local go_sem] Oper.semAt_some
theorem bool_int {a b : Int} (h : a = b) : Ending.returned (.int .i64 a) = .returned (.int .i64 b) := by rw [h]
def cfault (b : Bool) : Int := if b then 0 else 5
theorem prefix_bad {l : List UInt8} {pre : List (Int × Bool)} (hp : pre <+: strm l) (hb : pre.all goodB = false) : charsB l = false := by
  unfold charsB
  rw [Bool.eq_false_iff] at hb ⊢
  intro h
  apply hb
  rw [List.all_eq_true] at h ⊢
  exact fun x hx => h x (hp.subset hx)
set_option maxRecDepth 100000 in
set_option maxHeartbeats 4000000 in
theorem implTextFault_in (s : ByteArray) (hs : s.size ≤ 60) (w : World) (hT : Tabs w) :
    CallsIn Fence.wide 6 Tryz.prog 79 #[.string s] w fun e W' => e = .returned (.int .i64 (cfault (charsB s.data.toList))) ∧ Below w.heap.size w W' := by
  refine callsIn_of_wp_marks Tryz.func79 rfl trivial ?_ rfl
  simp only [Tryz.ntmps79, List.size_toArray, List.length_cons, List.length_nil, Nat.reduceAdd, Nat.reduceSub, Array.replicate_succ, Array.replicate_zero, List.push_toArray, List.append_toArray, List.nil_append, List.cons_append]
  gi_wp2_with (refine ⟨trivial, ?_⟩; gi_at_call 141; refine (pointsIn_in _ _ _).mono ?_; rintro e w' ⟨rfl, rfl⟩)
  have bR := Boxed.new w 2 (.int .i64 0)
  have bT := Boxed.new (w.alloc (.cells #[.int .i64 0] 2)) 9 (.string s)
  rw [World.size_alloc] at bT
  have hB0 : Below w.heap.size w ((w.alloc (.cells #[.int .i64 0] 2)).alloc (.cells #[.string s] 9)) := below2 w _ _
  refine wpIn_rangeFunc_ownF rfl (by omega) (gf := 198) (lb := #[.pointer (some ⟨w.heap.size + 1, 0, none⟩)]) rfl trivial (enters_of Tryz.func198 (by kernel_rfl) rfl)
    (iter_stops _ (by omega) (w.heap.size + 1) w.heap.size s (by omega) (gs_of_tabs hT) _ (by simp) (by simp; omega) bT.cell (tabs_kept hT hB0)) (fun h k => KpT.trans h k) (kpT_b (by simp; omega) (by simp)) (Below.refl _ _) (fun _ => rfl)
    (fun pre W => (pre.all goodB = true ∧ Boxed W w.heap.size 2 (.int .i64 0) ∧ Boxed W (w.heap.size + 1) 9 (.string s)) ∧ Below w.heap.size w W)
    (fun c pre W => (c = .ret ∧ pre.all goodB = false ∧ Boxed W w.heap.size 2 (.int .i64 5)) ∧ Below w.heap.size w W)
    (OwnFrom.and (Own.from (fun s A B row hs hg hr => ⟨hs.1, hs.2.1.kept hg (fun e => by obtain ⟨o, ho, hc⟩ := hr _ e.symm; rw [show A.heap[_]? = _ from hs.2.1] at ho; cases ho; cases hc), hs.2.2.kept hg (fun e => by obtain ⟨o, ho, hc⟩ := hr _ e.symm; rw [show A.heap[_]? = _ from hs.2.2] at ho; cases ho; cases hc)⟩) _) (ownFrom_below (Nat.le_refl _) (by simp; omega)))
    (fun c => OwnFrom.and (Own.from (fun s A B row hs hg hr => ⟨hs.1, hs.2.1, hs.2.2.kept hg (fun e => by obtain ⟨o, ho, hc⟩ := hr _ e.symm; rw [show A.heap[_]? = _ from hs.2.2] at ho; cases ho; cases hc)⟩) _) (ownFrom_below (Nat.le_refl _) (by simp; omega)))
    ⟨⟨rfl, bR.alloc _, bT⟩, hB0⟩
    (fun x => { tmps := #[.string s, undef, .pointer (some ⟨w.heap.size, 0, none⟩), .int .i64 x.1, .bool x.2, .string s, .int .i64 s.size, .bool (decide ((60 : Int) < (s.size : Int))), .string s, .func (.func 198) #[] #[.pointer (some ⟨w.heap.size + 1, 0, none⟩)], .int .i64 x.1, .bool x.2, undef, undef, undef, undef, undef, undef, undef], defers := [] }) ?assign ?body ?done ?stop
  case assign =>
    intro l x W K hK
    unfold encP
    gi_wp2
    exact hK
  case body =>
    rintro l pre ⟨p, ok⟩ W ⟨⟨hall, hR, hTx⟩, hB⟩ _
    have hc := hR.cell
    have hf := hR.frozen
    have HA := Lib.hid hall
    clear hall
    cases ok
    · gi_wp2
      refine ⟨trivial, ?_⟩
      gi_wp2
      exact ⟨KeepsOthers.setCell _ _ _, ⟨rfl, by rw [List.all_append, HA.out]; rfl, hR.set _⟩, hB.setCell (p := ⟨w.heap.size, 0, none⟩) (Nat.le_refl _) _⟩
    · cases hcb : charB p
      · have HC := Lib.hid hcb
        gi_wp2_with (refine ⟨trivial, ?_⟩; gi_at_call 142; refine (CallsIn.inRound l (callsIn_wide.2 (implIsChar_any p _))).mono ?_; rintro e w1 ⟨rfl, hb1⟩; have hR1 : Boxed w1 w.heap.size 2 (.int .i64 0) := (hb1.block _ hR.lt).trans hR; have hc1 := hR1.cell; have hf1 := hR1.frozen)
        exact ⟨(keeps_below hb1).trans (KeepsOthers.setCell _ _ _), ⟨rfl, by rw [List.all_append, HA.out]; simp [goodB, HC.out], hR1.set _⟩, (hB.trans (hb1.mono hB.size)).setCell (p := ⟨w.heap.size, 0, none⟩) (Nat.le_refl _) _⟩
      · have HC := Lib.hid hcb
        gi_wp2_with (refine ⟨trivial, ?_⟩; gi_at_call 142; refine (CallsIn.inRound l (callsIn_wide.2 (implIsChar_any p _))).mono ?_; rintro e w1 ⟨rfl, hb1⟩)
        exact ⟨keeps_below hb1, KpT.of_below hb1 hB.size hTx.lt, ⟨by rw [List.all_append, HA.out]; simp [goodB, HC.out], (hb1.block _ hR.lt).trans hR, (hb1.block _ hTx.lt).trans hTx⟩, hB.trans (hb1.mono hB.size)⟩
  case done =>
    rintro D ys W hD rfl ⟨⟨hall, hR, hTx⟩, hB⟩ hK
    have hc := hR.cell
    have hf := hR.frozen
    gi_wp2
    have hK' := (KeepsOthers.setCell W ⟨w.heap.size, 0, none⟩ (.int .i64 0)).same D _ hK rfl
    refine ⟨by simp, .inl ⟨_, _, rfl, run_takeDeferred hK', ?_⟩⟩
    have hc5 := cell_kept (hR.set (.int .i64 0)).cell (grownBy_putObj' _ D (.deferred none)) (fun r e => by cases e; exact ⟨_, hK', rfl⟩)
    refine ⟨.int .i64 0, ?_, bool_int (by unfold charsB; rw [hall]; rfl), (hB.setCell (p := ⟨w.heap.size, 0, none⟩) (Nat.le_refl _) _).trans (belowK_b (w := w) (Nat.le_refl _) _ D _ _ (by simp at hD; omega) hK' rfl rfl)⟩
    simp [results, Tryz.f79, go_sem, hc5]
  case stop =>
    rintro D c pre W hD hpre ⟨⟨rfl, hbad, hR⟩, hB⟩ hK
    gi_wp2
    refine ⟨by simp, .inl ⟨_, _, rfl, run_takeDeferred hK, ?_⟩⟩
    have hc5 := cell_kept hR.cell (grownBy_putObj' _ D (.deferred none)) (fun r e => by cases e; exact ⟨_, hK, rfl⟩)
    refine ⟨.int .i64 5, ?_, bool_int (by rw [prefix_bad hpre hbad]; rfl), hB.trans (belowK_b (w := w) (Nat.le_refl _) W D _ _ (by simp at hD; omega) hK rfl rfl)⟩
    simp [results, Tryz.f79, go_sem, hc5]
theorem implTextFault_any (s : ByteArray) (hs : s.size ≤ maxLen) (w : World) (hT : Tabs w) :
    Calls Tryz.prog 79 #[.string s] w fun e w' => e = .returned (.int .i64 (textFault s.data.toList)) ∧ Below w.heap.size w w' := by
  have hl : s.data.toList.length = s.size := by simp
  unfold textFault
  rw [hl]
  by_cases h : 60 < s.size
  · rw [if_pos h]
    clear hl
    unfold maxLen at hs
    go_enter Tryz.func79, Tryz.ntmps79
    go_wp2
    exact bodyPost_ret (v := .int .i64 2) (by simp [results, Tryz.results79, go_sem]) rfl ⟨rfl, below1 w _⟩
  · rw [if_neg h]
    exact callsIn_wide.1 (implTextFault_in s (by omega) w hT)
end Go.Proofs.YtcaknhoaoodbfaaGreatDoor
namespace Go.Proofs.YtcaknhoaoodbfaaGreatDoor
open Go.ChangeShapes Go.WideShapes Go.ChangeAt Go.RowKit
set_option linter.unusedVariables false
set_option maxRecDepth 100000 in
set_option maxHeartbeats 1600000 in
theorem implAttrs_any (a : Option Addr) (n c : Nat) (l : List At) (w : World) (hT : Tabs w) (h : AtsAt w a n c l) :
    Calls Tryz.prog 286 #[.slice a n c] w fun e w' => e = .returned (.int .i64 (attrsCode l)) ∧ Below w.heap.size w w' := by
  have hm := h.max
  have HR := Lib.hid h.row
  have HL := Lib.hid h.len
  have HT := Lib.hid hT
  have HZ := Lib.hid h.size
  by_cases h5 : 5 < n
  · have HC := Lib.hid (attrsCode_many (l := l) (by have := h.len; omega))
    clear h hT
    generalize attrsCode l = cd at HC
    go_enter Tryz.func286, Tryz.ntmps286
    go_wp2
    go_ret
    exact ⟨ret_i HC.out.symm, Below.refl _ _⟩
  · have HC1 : Hid (∀ k, k < n → (∀ j, j < k → atFault (l.getD j dAt) = 0) → atFault (l.getD k dAt) ≠ 0 → attrsCode l = atFault (l.getD k dAt)) := Lib.hid fun k hk h0 h1 => attrsCode_at (by have := h.len; omega) (by have := h.len; omega) h0 h1
    have HC2 : Hid ((∀ j, j < n → atFault (l.getD j dAt) = 0) → attrsCode l = if rises l = true then 0 else 6) := Lib.hid fun h0 => attrsCode_end (by have := h.len; omega) (fun j hj => h0 j (by have := h.len; omega))
    clear h hT
    generalize attrsCode l = cd at HC1 HC2
    go_enter Tryz.func286, Tryz.ntmps286
    go_wp2
    go_loopw [12] (fun i wr => ∃ k : Nat, k ≤ n ∧ i = .int .i64 k ∧ (∀ j, j < k → atFault (l.getD j dAt) = 0) ∧ Below w.heap.size w wr) (fun i _ => n - (intOf i).toNat)
    case atStart => exact ⟨0, Nat.zero_le _, rfl, fun j hj => by omega, Below.refl _ _⟩
    case round =>
      obtain ⟨k, hk, rfl, hz, hb⟩ := hrel
      have HK := Lib.hid hz
      clear hz
      by_cases hlt : k < n
      · rcases HR.out with e0 | ⟨b, o, rfl, h3, h4⟩
        · omega
        have d0 := (hb.cell (p := ⟨b, o + k * 2, none⟩) h3).trans (h4 k hlt).1
        have d1 := (hb.cell (p := ⟨b, o + k * 2 + 1, none⟩) h3).trans (h4 k hlt).2
        have HX := Lib.hid (HZ.out k)
        have HY : Hid (atFault (l.getD k dAt) ≠ 0 → cd = atFault (l.getD k dAt)) := Lib.hid (HC1.out k hlt HK.out)
        have HK2 : Hid (atFault (l.getD k dAt) = 0 → ∀ j, j < k + 1 → atFault (l.getD j dAt) = 0) := Lib.hid fun hx j hj => by
          rcases Nat.lt_or_ge j k with h | h
          · exact HK.out j h
          · obtain rfl : j = k := by omega
            exact hx
        have hbb := h3
        clear h4 h3
        generalize l.getD k dAt = x at d0 d1 HX HY HK2
        obtain ⟨s, t⟩ := x
        dsimp only at d0 d1
        have hsm : s.size ≤ 9223372036854775807 := HX.out.1
        have htm : t.size ≤ 9223372036854775807 := HX.out.2
        have HB := Lib.hid hb
        clear hb
        cases hkey : isKeyL s
        · have HKEY := Lib.hid hkey
          go_wp2_with fail
          refine (implIsKey_any s (by unfold maxLen; omega) _).mono ?_
          rintro e w1 ⟨rfl, hb1⟩
          go_wp2
          go_ret
          have e5 : atFault ⟨s, t⟩ = 5 := by unfold atFault; rw [show (⟨s, t⟩ : At).name = s from rfl, HKEY.out]; rfl
          exact ⟨ret_i (by rw [HY.out (by rw [e5]; decide), e5]), below_then HB.out (below_then (below1 _ _) hb1)⟩
        · have HKEY := Lib.hid hkey
          have ef : atFault ⟨s, t⟩ = textFault t.data.toList := by unfold atFault; rw [show (⟨s, t⟩ : At).name = s from rfl, hkey]; rfl
          rw [ef] at HY HK2
          have K := Lib.hid (fun W (hb' : Below w.heap.size w W) => implTextFault_any t (HX.out.2) W (tabs_kept HT.out hb'))
          generalize textFault t.data.toList = tf at HY HK2 K
          by_cases h0 : tf = 0
          · subst h0
            have HK3 := Lib.hid (HK2.out rfl)
            clear HK2 HY ef
            go_wp2_with fail
            refine (implIsKey_any s (by unfold maxLen; omega) _).mono ?_
            rintro e w1 ⟨rfl, hb1⟩
            obtain ⟨hc, hf⟩ := bcell hb1
            have hz := hb1.size
            simp at hz
            have HB1 := Lib.hid (below_then HB.out (below_then (below1 _ _) hb1))
            clear hb1
            go_wp2_with fail
            refine (K.out _ HB1.out).mono ?_
            rintro e w2 ⟨rfl, hb2⟩
            go_wp2
            go_roundw
            case rel => exact ⟨k + 1, by omega, by go_num, HK3.out, below_then HB1.out hb2⟩
            case measure => simp [intOf]; omega
          · have HY2 := Lib.hid (HY.out h0)
            have q1 : (tf != 0) = true := by simpa using h0
            have q2 : (tf == 0) = false := by simpa using h0
            clear HK2 HY ef h0
            go_wp2_with fail
            refine (implIsKey_any s (by unfold maxLen; omega) _).mono ?_
            rintro e w1 ⟨rfl, hb1⟩
            obtain ⟨hc, hf⟩ := bcell hb1
            have hz := hb1.size
            simp at hz
            have HB1 := Lib.hid (below_then HB.out (below_then (below1 _ _) hb1))
            clear hb1
            go_wp2_with fail
            refine (K.out _ HB1.out).mono ?_
            rintro e w2 ⟨rfl, hb2⟩
            go_wp2
            go_ret
            exact ⟨ret_i HY2.out.symm, below_then HB1.out hb2⟩
      · obtain rfl : k = n := by omega
        have HC3 := Lib.hid (HC2.out HK.out)
        clear HC1 HC2 HK
        go_wp2
        go_loopw [6] (fun i wx => ∃ k2 : Nat, 1 ≤ k2 ∧ (k2 ≤ k ∨ k2 = 1) ∧ i = .int .i64 k2 ∧ (∀ j, 1 ≤ j → j < k2 → lessAt (l.getD (j - 1) dAt) (l.getD j dAt) = true) ∧ Below w.heap.size w wx) (fun i _ => k - (intOf i).toNat)
        case atStart => exact ⟨1, Nat.le_refl _, .inr rfl, rfl, fun j h1 h2 => by omega, hb⟩
        case round =>
          obtain ⟨k2, hk1, hk2, rfl, hz2, hb2⟩ := hrel
          have HZ2 := Lib.hid hz2
          clear hz2
          by_cases hlt2 : k2 < k
          · rcases HR.out with e0 | ⟨b, o, rfl, h3, h4⟩
            · omega
            have d0 := (hb2.cell (p := ⟨b, o + k2 * 2, none⟩) h3).trans (h4 k2 hlt2).1
            have d1 := (hb2.cell (p := ⟨b, o + (k2 - 1) * 2, none⟩) h3).trans (h4 (k2 - 1) (by omega)).1
            have HN2 : Hid (lessAt (l.getD (k2 - 1) dAt) (l.getD k2 dAt) = false → cd = 6) := Lib.hid fun e => by
              rw [HC3.out, rises_no hk1 (by have := HL.out; omega) e]; rfl
            have HY2 : Hid (lessAt (l.getD (k2 - 1) dAt) (l.getD k2 dAt) = true → ∀ j, 1 ≤ j → j < k2 + 1 → lessAt (l.getD (j - 1) dAt) (l.getD j dAt) = true) := Lib.hid fun e j h1 h2 => by
              rcases Nat.lt_or_ge j k2 with h | h
              · exact HZ2.out j h1 h
              · obtain rfl : j = k2 := by omega
                exact e
            have q0 : (k2 : Int) < (k : Int) := by omega
            have q1 : (0 : Int) ≤ (k2 : Int) - 1 := by omega
            have q2 : (1 : Int) ≤ (k2 : Int) := by omega
            have q3 : (k2 : Int) - 1 < (k : Int) := by omega
            clear h4 h3
            generalize l.getD k2 dAt = x at d0 HN2 HY2
            generalize l.getD (k2 - 1) dAt = y at d1 HN2 HY2
            obtain ⟨s, t⟩ := x
            obtain ⟨s2, t2⟩ := y
            unfold lessAt at HN2 HY2
            dsimp only at d0 d1 HN2 HY2
            have HB2 := Lib.hid hb2
            clear hb2
            cases hless : Op.bytesLess s2.toList s.toList
            · have HF := Lib.hid (HN2.out hless)
              clear HN2 HY2
              go_wp2_with fail
              go_quiet (fail)
              go_wp2
              go_ret
              exact ⟨ret_i HF.out.symm, below_drewN HB2.out _⟩
            · have HF := Lib.hid (HY2.out hless)
              clear HN2 HY2
              go_wp2_with fail
              go_quiet (fail)
              go_wp2
              go_roundw
              case rel => exact ⟨k2 + 1, by omega, .inl (by omega), by go_num, HF.out, below_drewN HB2.out _⟩
              case measure => simp [intOf]; omega
          · have HF : Hid (cd = 0) := Lib.hid (by
              rw [HC3.out, rises_yes fun i h1 h2 => HZ2.out i h1 (by have := HL.out; omega)]; rfl)
            go_wp2
            go_ret
            exact ⟨ret_i HF.out.symm, hb2⟩
theorem partOf_text (b o : Nat) (x : It) (w : World) (h : ItAt w b o x) (hx : x.name.toList.isEmpty = true) :
    Calls Tryz.prog 55 #[.pointer (some ⟨b, o, none⟩)] w fun e w' => e = .returned (.iface 128 (.agg #[.pointer (some ⟨b, o, none⟩)])) ∧ w' = w := by
  have d3 := h.c3
  clear h
  go_enter Tryz.func55, Tryz.ntmps55
  go_wp2
  go_ret
  exact ⟨rfl, rfl⟩
theorem partOf_elem (b o : Nat) (x : It) (w : World) (h : ItAt w b o x) (hx : x.name.toList.isEmpty = false) :
    Calls Tryz.prog 55 #[.pointer (some ⟨b, o, none⟩)] w fun e w' => e = .returned (.iface 129 (.agg #[.pointer (some ⟨b, o, none⟩)])) ∧ w' = w := by
  have d3 := h.c3
  clear h
  go_enter Tryz.func55, Tryz.ntmps55
  go_wp2
  go_ret
  exact ⟨rfl, rfl⟩
theorem nodeInfo : (Tryz.prog.info? 140).map (fun i => (i.zero, i.size, i.bytes)) = some (some (.pointer none), 1, 8) := by kernel_rfl
theorem ptrCells (W : World) (v : Value) (j : Nat) (u : Value) (hj : [v][j]? = some u) : (W.alloc (.cells #[v] 140)).cell? (Addr.add ⟨W.heap.size, 0, none⟩ j) = some u := by
  match j, hj with
  | 0, hj => simp at hj; subst hj; simp [Addr.add]
theorem kidsUp_none (l : List It) {m j : Nat} (h : m ≤ j) : kidsUp l m j = [] := by
  unfold kidsUp
  rw [List.filter_eq_nil_iff]
  intro k hk
  rw [List.mem_range] at hk
  unfold kidB
  by_cases e : parOf l k = some j
  · have := (lastAt_is e).1
    omega
  · rw [decide_eq_false e]; simp
def partTy (x : It) : TypeId := if x.name.toList.isEmpty then 128 else 129
theorem part_any (bi oi j : Nat) (x : It) (w : World) (h : ItAt w bi (oi + j * 5) x) :
    Calls Tryz.prog 55 #[.pointer (some ⟨bi, oi + j * 5, none⟩)] w fun e w' => e = .returned (.iface (partTy x) (.agg #[.pointer (some ⟨bi, oi + j * 5, none⟩)])) ∧ w' = w := by
  unfold partTy
  cases hx : x.name.toList.isEmpty
  · exact partOf_elem bi (oi + j * 5) x w h hx
  · exact partOf_text bi (oi + j * 5) x w h hx
def Lasts (w : World) (lb : Nat) (l : List It) (m : Nat) (nb : Nat → Nat) : Prop := lb < w.heap.size ∧ ∀ d, d < 7 → w.cell? ⟨lb, d, none⟩ = some (ptrO nb (lastAt l (d : Int) m)) ∧ w.frozen? ⟨lb, d, none⟩ = false
theorem Lasts.below {w w' : World} {lb m : Nat} {l : List It} {nb : Nat → Nat} (h : Lasts w lb l m nb) (hb : Below w.heap.size w w') : Lasts w' lb l m nb :=
  ⟨Nat.lt_of_lt_of_le h.1 hb.size, fun d hd => ⟨(hb.cell (p := ⟨lb, d, none⟩) h.1).trans (h.2 d hd).1, (hb.frozen (p := ⟨lb, d, none⟩) h.1).trans (h.2 d hd).2⟩⟩
theorem Lasts.only {P : Nat → Prop} {w w' : World} {lb m : Nat} {l : List It} {nb : Nat → Nat} (h : Lasts w lb l m nb) (ho : Only P w w') (hn : ¬ P lb) : Lasts w' lb l m nb :=
  ⟨Nat.lt_of_lt_of_le h.1 ho.size, fun d hd => ⟨(ho.cell (p := ⟨lb, d, none⟩) h.1 hn).trans (h.2 d hd).1, (ho.frozen (p := ⟨lb, d, none⟩) h.1 hn).trans (h.2 d hd).2⟩⟩
theorem Lasts.step {w : World} {lb m dm : Nat} {l : List It} {nb : Nat → Nat} (h : Lasts w lb l m nb) (k : Nat) (hd : dp l m = (dm : Int)) : Lasts (w.setCell ⟨lb, dm, none⟩ (ptrN k)) lb l (m + 1) (putA m k nb) := by
  refine ⟨by simpa using h.1, fun d hd7 => ⟨?_, by rw [World.frozen?_setCell]; exact (h.2 d hd7).2⟩⟩
  unfold lastAt
  by_cases e : d = dm
  · subst e
    rw [if_pos hd, World.cell?_setCell_same _ _ _ (h.2 d hd7).1]
    simp [ptrO, ptrN, putA_at]
  · rw [if_neg (by rw [hd]; omega), World.cell?_setCell_other _ _ _ _ (fun q => e (congrArg Addr.off q).symm), (h.2 d hd7).1]
    unfold ptrO
    cases hl : lastAt l (d : Int) m with
    | none => rfl
    | some i =>
      have := (lastAt_is hl).1
      simp only [Option.map_some]
      rw [putA_ne _ _ (by omega)]
theorem kids_root {l : List It} {m : Nat} (h : dp l m = 0) (j : Nat) (hj : j < m + 1) : putA m [] (kidsUp l m) j = kidsUp l (m + 1) j := by
  rw [kidsUp_succ, kidB_root h]
  by_cases e : j = m
  · subst e
    rw [putA_at, kidsUp_none l (Nat.le_refl _)]; rfl
  · rw [putA_ne _ _ e]; simp
theorem kids_under {l : List It} {m p : Nat} (h0 : 0 < dp l m) (hp : parOf l m = some p) (hpm : p < m) (j : Nat) (hj : j < m + 1) : putA p (putA m [] (kidsUp l m) p ++ [m]) (putA m [] (kidsUp l m)) j = kidsUp l (m + 1) j := by
  rw [kidsUp_succ, kidB_par h0 hp]
  by_cases e : j = p
  · subst e
    rw [putA_at, putA_ne _ _ (by omega)]; simp
  · rw [putA_ne _ _ e]
    by_cases e2 : j = m
    · subst e2
      rw [putA_at, kidsUp_none l (Nat.le_refl _)]; simp [e]
    · rw [putA_ne _ _ e2]; simp [e]
def NodesRes (w : World) (bi oi : Nat) (l : List It) (e : Ending) (w' : World) : Prop :=
  ∃ (rb B : Nat) (nb : Nat → Nat) (KA : Nat → Option Addr) (KN KC : Nat → Nat), e = .returned (.slice (some ⟨rb, 0, none⟩) l.length l.length) ∧ w.heap.size ≤ rb ∧ rb < B ∧ Nodes w' B bi oi l l.length nb KA KN KC (kidsUp l l.length) ∧ (∀ i, i < l.length → w'.cell? ⟨rb, i, none⟩ = some (ptrN (nb i))) ∧ Below w.heap.size w w'
set_option maxRecDepth 100000 in
set_option maxHeartbeats 3200000 in
theorem nodesOf_any (bi oi c : Nat) (l : List It) (w : World) (h : Rises l) (hI : ∀ i, i < l.length → ItAt w bi (oi + i * 5) (l.getD i dIt)) :
    Calls Tryz.prog 124 #[.slice (some ⟨bi, oi, none⟩) l.length c] w (NodesRes w bi oi l) := by
  obtain ⟨i0, hi, hz0, hz1, hz2⟩ := info_parts nodeInfo
  have H := Lib.hid h
  have HI := Lib.hid hI
  have hbi : bi < w.heap.size := (hI 0 (by have := h.some; omega)).lt
  have hn40 := h.few
  have hn1 := h.some
  unfold NodesRes
  clear h hI
  obtain ⟨n, hn⟩ : ∃ n, l.length = n := ⟨_, rfl⟩
  rw [hn] at hn40 hn1 ⊢
  have HN := Lib.hid hn
  clear hn
  go_enter Tryz.func124, Tryz.ntmps124
  go_wp2_with (at_make; refine wpList_make_full _ rfl _ _ 137 rfl w.heap.size 140 i0 _ 1 Tryz.underlying137 hi hz0 hz1 .i64 .i64 (n : Int) (n : Int) n rfl rfl rfl rfl (by rw [hz2]; omega) (by unfold maxLen; omega) (Nat.le_refl _) ?_)
  intro w1 ho1 hg1
  have HRoom := Lib.hid (room_made ho1)
  have HB1 := Lib.hid (below_made hg1)
  have hs1 : w.heap.size < w1.heap.size := (room_made ho1).1
  clear ho1 hg1
  go_upto_region 3 with fail
  have hL0 : Lasts (w1.alloc (.cells #[.pointer none, .pointer none, .pointer none, .pointer none, .pointer none, .pointer none, .pointer none] 209)) w1.heap.size l 0 (fun _ => 0) := ⟨by simp, fun d hd => by
    match d, hd with
    | 0, _ => exact ⟨by simp [ptrO, lastAt], by go_simp⟩
    | 1, _ => exact ⟨by simp [ptrO, lastAt], by go_simp⟩
    | 2, _ => exact ⟨by simp [ptrO, lastAt], by go_simp⟩
    | 3, _ => exact ⟨by simp [ptrO, lastAt], by go_simp⟩
    | 4, _ => exact ⟨by simp [ptrO, lastAt], by go_simp⟩
    | 5, _ => exact ⟨by simp [ptrO, lastAt], by go_simp⟩
    | 6, _ => exact ⟨by simp [ptrO, lastAt], by go_simp⟩⟩
  have HL0 := Lib.hid hL0
  have HR0 := Lib.hid (HRoom.out.below (below1 w1 (.cells #[.pointer none, .pointer none, .pointer none, .pointer none, .pointer none, .pointer none, .pointer none] 209)))
  have HB0 := Lib.hid (below_then HB1.out (below1 w1 (.cells #[.pointer none, .pointer none, .pointer none, .pointer none, .pointer none, .pointer none, .pointer none] 209)))
  have hs0 : (w1.alloc (.cells #[.pointer none, .pointer none, .pointer none, .pointer none, .pointer none, .pointer none, .pointer none] 209)).heap.size = w1.heap.size + 1 := by simp
  clear hL0 HB1 HRoom
  generalize w1.alloc (.cells #[.pointer none, .pointer none, .pointer none, .pointer none, .pointer none, .pointer none, .pointer none] 209) = W0 at HL0 HR0 HB0 hs0 ⊢
  generalize hlb : w1.heap.size = lb at HL0 hs1 hs0 ⊢
  clear hlb
  go_wp2
  go_loopw [14] (fun i wr => ∃ (j : Nat) (nb : Nat → Nat) (KA : Nat → Option Addr) (KN KC : Nat → Nat), j ≤ n ∧ i = .int .i64 (j : Int) ∧ Nodes wr (lb + 1) bi oi l j nb KA KN KC (kidsUp l j) ∧ Lasts wr lb l j nb ∧ Room wr w.heap.size (n * 1) ∧ (∀ i, i < j → wr.cell? ⟨w.heap.size, i, none⟩ = some (ptrN (nb i))) ∧ Below w.heap.size w wr) (fun i _ => n - (intOf i).toNat)
  case atStart =>
    refine ⟨0, fun _ => 0, fun _ => none, fun _ => 0, fun _ => 0, Nat.zero_le _, rfl, ⟨fun j hj => by omega, fun j hj => by omega, fun j hj => by omega, fun j hj => by omega, fun j hj => by omega, fun j hj => by omega, fun j hj => by omega, fun i j hi hj => by omega, fun i j hi => by omega, fun i j hi => by omega⟩, HL0.out, HR0.out, fun i hi => by omega, HB0.out⟩
  case round =>
    obtain ⟨j, nb, KA, KN, KC, hj, rfl, hN, hL, hR, hdone, hb⟩ := hrel
    by_cases hlt : j < n
    · have q0 : (j : Int) < (n : Int) := by omega
      have hlj : j < l.length := by have := HN.out; omega
      have hIj := (HI.out j hlj).below hb
      have KP := Lib.hid (fun W (hb : Below wr.heap.size wr W) => part_any bi oi j (l.getD j dIt) W (hIj.below hb))
      have d0 := hIj.c0
      have hdp : (l.getD j dIt).depth = dp l j := rfl
      rw [hdp] at d0
      have hbd := H.out.bd j hlj
      have HNN := Lib.hid hN
      have HLL := Lib.hid hL
      have HRR := Lib.hid hR
      have HDD := Lib.hid hdone
      have HBB := Lib.hid hb
      have hbiw : bi < wr.heap.size := hIj.lt
      have hlbw : lb < wr.heap.size := hL.1
      have hBw : lb + 1 ≤ wr.heap.size := by omega
      clear hN hL hR hdone hb hIj hdp
      have HPV : Hid (partV bi oi (l.getD j dIt) j = .iface (partTy (l.getD j dIt)) (.agg #[.pointer (some ⟨bi, oi + j * 5, none⟩)])) := Lib.hid rfl
      generalize partTy (l.getD j dIt) = tt at KP HPV
      obtain ⟨dj, hdj⟩ : ∃ dj : Nat, dp l j = (dj : Int) := ⟨(dp l j).toNat, by omega⟩
      have hd6 : dj ≤ 6 := by omega
      rw [hdj] at d0
      go_wp2_with fail
      refine (KP.out _ (Below.refl _ _)).mono ?_
      rintro e w2 ⟨rfl, rfl⟩
      go_upto_region 8 with fail
      have hN1 := HNN.out.add (by omega) 139
      rw [HPV.out] at hN1
      have N1 := Lib.hid hN1
      have L1 := Lib.hid (HLL.out.below (below1 w2 (.cells #[.iface tt (.agg #[.pointer (some ⟨bi, oi + j * 5, none⟩)]), .int .i64 (j : Int), .slice none 0 0] 139)))
      have R1 := Lib.hid (HRR.out.below (below1 w2 (.cells #[.iface tt (.agg #[.pointer (some ⟨bi, oi + j * 5, none⟩)]), .int .i64 (j : Int), .slice none 0 0] 139)))
      have D1 : Hid (∀ i, i < j → (w2.alloc (.cells #[.iface tt (.agg #[.pointer (some ⟨bi, oi + j * 5, none⟩)]), .int .i64 (j : Int), .slice none 0 0] 139)).cell? ⟨w.heap.size, i, none⟩ = some (ptrN (nb i))) := Lib.hid fun i hi => ((below1 w2 (.cells #[.iface tt (.agg #[.pointer (some ⟨bi, oi + j * 5, none⟩)]), .int .i64 (j : Int), .slice none 0 0] 139)).cell (p := ⟨w.heap.size, i, none⟩) HRR.out.1).trans (HDD.out i hi)
      have B1 := Lib.hid (HBB.out.trans ((below1 w2 (.cells #[.iface tt (.agg #[.pointer (some ⟨bi, oi + j * 5, none⟩)]), .int .i64 (j : Int), .slice none 0 0] 139)).mono HBB.out.size))
      have d0 := ((below1 w2 (.cells #[.iface tt (.agg #[.pointer (some ⟨bi, oi + j * 5, none⟩)]), .int .i64 (j : Int), .slice none 0 0] 139)).cell (p := ⟨bi, oi + j * 5, none⟩) hbiw).trans d0
      have hs1w : (w2.alloc (.cells #[.iface tt (.agg #[.pointer (some ⟨bi, oi + j * 5, none⟩)]), .int .i64 (j : Int), .slice none 0 0] 139)).heap.size = w2.heap.size + 1 := by simp
      clear hN1 HNN HLL HRR HDD HBB KP HPV
      generalize w2.alloc (.cells #[.iface tt (.agg #[.pointer (some ⟨bi, oi + j * 5, none⟩)]), .int .i64 (j : Int), .slice none 0 0] 139) = W1 at N1 L1 R1 D1 B1 d0 hs1w ⊢
      generalize hk : w2.heap.size = k at N1 hs1w hbiw hlbw ⊢
      clear hk
      have hwk : w.heap.size < k := by omega
      by_cases hz : dj = 0
      · subst hz
        obtain ⟨l0, lf0⟩ := L1.out.2 0 (by omega)
        obtain ⟨⟨v9, r9⟩, f9⟩ := R1.out.2 j (by omega)
        have hne : w.heap.size ≠ lb := by omega
        go_wp2
        go_roundw
        case rel =>
          have hL2 := L1.out.step (dm := 0) k hdj
          have ho : Only (fun i => i < lb + 1) W1 ((W1.setCell ⟨lb, 0, none⟩ (ptrN k)).setCell ⟨w.heap.size, j, none⟩ (ptrN k)) := (Only.set (P := fun i => i < lb + 1) W1 ⟨lb, 0, none⟩ _ (Nat.lt_succ_self _)).trans (Only.set (P := fun i => i < lb + 1) _ ⟨w.heap.size, j, none⟩ _ (by show w.heap.size < lb + 1; omega))
          refine ⟨j + 1, putA j k nb, putA j none KA, putA j 0 KN, putA j 0 KC, by omega, by go_num, ?_, ?_, ?_, ?_, ?_⟩
          · exact (N1.out.only ho fun i h1 h2 => by omega).congr fun i hi => kids_root hdj i hi
          · exact hL2.only (Only.set (P := fun i => i = w.heap.size) _ ⟨w.heap.size, j, none⟩ _ rfl) (fun e => hne e.symm)
          · exact (R1.out.set _ _).set _ _
          · intro i hi
            by_cases e : i = j
            · subst e
              rw [putA_at]
              exact World.cell?_setCell_same _ _ _ ((World.cell?_setCell_other _ _ _ _ (fun q => hne (congrArg Addr.block q).symm)).trans r9)
            · rw [putA_ne _ _ e, World.cell?_setCell_other _ _ _ _ (fun q => e (congrArg Addr.off q).symm), World.cell?_setCell_other _ _ _ _ (fun q => hne (congrArg Addr.block q).symm)]
              exact D1.out i (by omega)
          · exact (B1.out.setCell (by show w.heap.size ≤ lb; omega) _).setCell (Nat.le_refl _) _
        case measure => simp [intOf]; omega
      · obtain ⟨e, rfl⟩ : ∃ e, dj = e + 1 := ⟨dj - 1, by omega⟩
        have hj1 : 1 ≤ j := by
          rcases Nat.eq_zero_or_pos j with h0 | h0
          · subst h0
            have := H.out.first
            omega
          · exact h0
        obtain ⟨p, hp1, hp2, hp3, _⟩ := par_ex H.out hj1 hlj
        have hpe : dp l j - 1 = (e : Int) := by omega
        unfold parOf at hp1
        obtain ⟨l0, lf0⟩ := L1.out.2 e (by omega)
        obtain ⟨l1, lf1⟩ := L1.out.2 (e + 1) (by omega)
        rw [hpe] at hp1
        rw [hp1] at l0
        obtain ⟨⟨v9, r9⟩, f9⟩ := R1.out.2 j (by omega)
        have hne : w.heap.size ≠ lb := by omega
        have hpj : p ≠ j := by omega
        have a0 : putA j k nb p = nb p := putA_ne _ _ hpj
        have a1 : putA j none KA p = KA p := putA_ne _ _ hpj
        have a2 : putA j 0 KN p = KN p := putA_ne _ _ hpj
        have a3 : putA j 0 KC p = KC p := putA_ne _ _ hpj
        have n2 := N1.out.c2 p (by omega)
        have nf := N1.out.f2 p (by omega)
        have nl := N1.out.lt p (by omega)
        have noff := N1.out.off p p (by omega) (by omega)
        have nr0 := N1.out.row p (by omega)
        rw [a0, a1, a2, a3] at n2
        rw [a0] at nf nl
        rw [a0, a1, a2, a3] at noff
        rw [a1, a2, a3] at nr0
        have hkn : KN p ≤ 40 := by
          have h1 := nr0.1
          rw [rowN_len, putA_ne _ _ hpj] at h1
          have h2 := kidsUp_len l j p
          omega
        have nr := Lib.hid nr0
        have NO := Lib.hid noff
        have A0 := Lib.hid a0
        have A1 := Lib.hid a1
        have A2 := Lib.hid a2
        have A3 := Lib.hid a3
        replace l0 : W1.cell? ⟨lb, e, none⟩ = some (.pointer (some ⟨nb p, 0, none⟩)) := l0
        replace d0 : W1.cell? ⟨bi, oi + j * 5, none⟩ = some (.int .i64 ((e : Int) + 1)) := d0
        have he6 : (e : Int) < 7 := by omega
        have he5 : (e : Int) + 1 < 7 := by omega
        have hlb1 : lb + 1 ≤ W1.heap.size := by omega
        have HSW := Lib.hid hs1w
        clear nr0 noff a0 a1 a2 a3 l1 lf1 r9 f9 v9 hs1w
        go_wp2_with (at_builtin; refine wpList_append_own_at _ rfl _ _ 137 rfl (lb + 1) 140 i0 (.pointer none) 1 8 Tryz.underlying137 hi hz0 hz1 hz2 rfl (by decide) _ (KN p) _ rfl (nr.out.alloc _) ⟨W1.heap.size, 0, none⟩ 1 1 [.pointer (some ⟨k, 0, none⟩)] rfl rfl (fun j u hj => ptrCells W1 _ j u hj) (by intro v hv; simp at hv; subst hv; rfl) (by unfold maxLen; omega) (by omega) (by simp; omega) ?_)
        intro v' w3 hown hgr _ hat
        obtain ⟨a', c', rfl⟩ := owns_slice hown
        have hn3 : w3.cell? ⟨nb p, 2, none⟩ = some (.slice (KA p) (KN p) (KC p)) := hgr.cell (((below1 W1 (.cells #[.pointer (some ⟨k, 0, none⟩)] 140)).cell (p := ⟨nb p, 2, none⟩) nl.2).trans n2) (fun q => NO.out q.symm)
        have hf3 : w3.frozen? ⟨nb p, 2, none⟩ = false := ((Only.grown hgr).frozen (p := ⟨nb p, 2, none⟩) (by have := nl.2; simp; omega) (fun q => NO.out q.symm)).trans (((below1 W1 (.cells #[.pointer (some ⟨k, 0, none⟩)] 140)).frozen (p := ⟨nb p, 2, none⟩) nl.2).trans nf)
        have hN2 := N1.out.put (p := p) (k := j) (w0 := W1.alloc (.cells #[.pointer (some ⟨k, 0, none⟩)] 140)) (w3 := w3) (a' := a') (n' := KN p + 1) (c' := c') (by omega) (by omega) (below1 W1 _) (by rw [putA_at]; exact hown) (by rw [A1.out, A2.out, A3.out]; exact hgr) (by rw [A1.out, A2.out, A3.out]; exact hat.imp id fun q => ⟨W1.heap.size + 1, by simpa using q, by simp⟩)
        rw [A0.out] at hN2
        have ho4 : Only (fun i => lb + 1 ≤ i) W1 (w3.setCell ⟨nb p, 2, none⟩ (.slice a' (KN p + 1) c')) := ((Only.below (below1 W1 (.cells #[.pointer (some ⟨k, 0, none⟩)] 140))).trans ((Only.grown hgr).mono fun i q => (nr.out.lt i q.symm).1)).trans (Only.set _ _ _ nl.1)
        have N2 := Lib.hid hN2
        have HO4 := Lib.hid ho4
        have hb4 := Only.under B1.out (Nat.le_refl _) ho4 (fun i q => by omega)
        have hd4 := (ho4.cell (p := ⟨bi, oi + j * 5, none⟩) (by have := HSW.out; show bi < _; omega) (by show ¬ (lb + 1 ≤ bi); omega)).trans d0
        have L4 := Lib.hid (L1.out.only ho4 (by omega))
        have R4 := Lib.hid (R1.out.only ho4 (by omega))
        have D4 : Hid (∀ i, i < j → (w3.setCell ⟨nb p, 2, none⟩ (.slice a' (KN p + 1) c')).cell? ⟨w.heap.size, i, none⟩ = some (ptrN (nb i))) := Lib.hid fun i hi => (ho4.cell (p := ⟨w.heap.size, i, none⟩) R1.out.1 (by show ¬ (lb + 1 ≤ w.heap.size); omega)).trans (D1.out i hi)
        have B4 := Lib.hid hb4
        have h34 : w3.heap.size = (w3.setCell ⟨nb p, 2, none⟩ (.slice a' (KN p + 1) c')).heap.size := by simp
        have hbi4 : bi < (w3.setCell ⟨nb p, 2, none⟩ (.slice a' (KN p + 1) c')).heap.size := World.block_lt_of_cell? _ _ hd4
        clear hown hgr hat hN2 ho4 hb4 n2 nf nr NO A0 A1 A2 A3 N1 L1 R1 D1 B1 d0 l0
        go_upto_region 11 with fail
        generalize w3.setCell ⟨nb p, 2, none⟩ (.slice a' (KN p + 1) c') = W4 at N2 HO4 hd4 L4 R4 D4 B4 h34 hbi4 ⊢
        clear hn3 hf3 h34 nl
        obtain ⟨l1, lf1⟩ := L4.out.2 (e + 1) (by omega)
        obtain ⟨⟨v9, r9⟩, f9⟩ := R4.out.2 j (by omega)
        go_wp2
        go_roundw
        case rel =>
          have hL2 := L4.out.step (dm := e + 1) k hdj
          have ho : Only (fun i => i < lb + 1) W4 ((W4.setCell ⟨lb, e + 1, none⟩ (ptrN k)).setCell ⟨w.heap.size, j, none⟩ (ptrN k)) := (Only.set (P := fun i => i < lb + 1) W4 ⟨lb, e + 1, none⟩ _ (Nat.lt_succ_self _)).trans (Only.set (P := fun i => i < lb + 1) _ ⟨w.heap.size, j, none⟩ _ (by show w.heap.size < lb + 1; omega))
          refine ⟨j + 1, putA j k nb, putA p a' (putA j none KA), putA p (KN p + 1) (putA j 0 KN), putA p c' (putA j 0 KC), by omega, by go_num, ?_, ?_, ?_, ?_, ?_⟩
          · exact (N2.out.only ho fun i h1 h2 => by omega).congr fun i hi => kids_under (by omega) (by unfold parOf; rw [hpe]; exact hp1) hp2 i hi
          · exact hL2.only (Only.set (P := fun i => i = w.heap.size) _ ⟨w.heap.size, j, none⟩ _ rfl) (fun e => hne e.symm)
          · exact (R4.out.set _ _).set _ _
          · intro i hi
            by_cases e : i = j
            · subst e
              rw [putA_at]
              exact World.cell?_setCell_same _ _ _ ((World.cell?_setCell_other _ _ _ _ (fun q => hne (congrArg Addr.block q).symm)).trans r9)
            · rw [putA_ne _ _ e, World.cell?_setCell_other _ _ _ _ (fun q => e (congrArg Addr.off q).symm), World.cell?_setCell_other _ _ _ _ (fun q => hne (congrArg Addr.block q).symm)]
              exact D4.out i (by omega)
          · exact (B4.out.setCell (by show w.heap.size ≤ lb; omega) _).setCell (Nat.le_refl _) _
        case measure => simp [intOf]; omega
    · obtain rfl : j = n := by omega
      have HNN := Lib.hid hN
      have HDD := Lib.hid hdone
      have HBB := Lib.hid hb
      clear hN hL hR hdone hb
      go_wp2
      go_ret
      exact ⟨w.heap.size, lb + 1, nb, KA, KN, KC, rfl, Nat.le_refl _, by omega, HNN.out, fun i hi => HDD.out i hi, HBB.out⟩
end Go.Proofs.YtcaknhoaoodbfaaGreatDoor
