/- The iterator over the points of a text. -/
import Derived.RangeFuncNested
import Derived.RangeFuncBound
import Derived.RangeFuncCalls
import Derived.RangeFuncLeaves
import Derived.RangeFuncBox
import Derived.Maps.AppendAt
import Derived.Shelf.Abstract
import Derived.Shelf.RegionOpen
import Derived.WalkKit
import Derived.OwnWalkIn
import Derived.TacticsInMore
import Derived.LoopNIn
import Derived.LoopIn
import Derived.Test.YtcaknhoaoodbfaaGreatDoorGC8
import Derived.Test.YtcaknhoaoodbfaaGreatDoorGC4
namespace Go.Proofs.YtcaknhoaoodbfaaGreatDoor
open Go.RowKit Go.Shelf
set_option linter.unusedVariables false

attribute [local go_sem] Oper.semAt_some

/-- the two tables' variables lie below B -/
structure GsLt (B : Nat) : Prop where
  a : 0 < B
  b : 1 < B
theorem GsLt.mono {B B' : Nat} (h : GsLt B) (hle : B ≤ B') : GsLt B' := ⟨Nat.lt_of_lt_of_le h.a hle, Nat.lt_of_lt_of_le h.b hle⟩
abbrev Tabs (w : World) : Prop := Lib.Utf8Tabs 0 1 w
theorem cell_some_lt {w : World} {a : Addr} {v : Value} (h : w.cell? a = some v) : a.block < w.heap.size := by
  unfold World.cell? at h
  rcases Nat.lt_or_ge a.block w.heap.size with h1 | h1
  · exact h1
  · rw [Array.getElem?_eq_none h1] at h
    simp at h
theorem gs_of_tabs {w : World} (h : Tabs w) : GsLt w.heap.size :=
  ⟨cell_some_lt (h.1 0 (by decide)), cell_some_lt (h.2 0 (by decide)).1⟩
theorem tabs_below {B : Nat} {w w' : World} (h : Tabs w) (hb : Below B w w') (hB : GsLt B) : Tabs w' :=
  ⟨fun c hc => (hb.cell (p := ⟨0, c, none⟩) hB.a).trans (h.1 c hc),
   fun i hi => ⟨(hb.cell (p := ⟨1, 2 * i, none⟩) hB.b).trans (h.2 i hi).1, (hb.cell (p := ⟨1, 2 * i + 1, none⟩) hB.b).trans (h.2 i hi).2⟩⟩
/-- the tables stay, whatever is made behind them -/
theorem tabs_kept {w w' : World} (h : Tabs w) (hb : Below w.heap.size w w') : Tabs w' := tabs_below h hb (gs_of_tabs h)

theorem decodeGo_L (u : ByteArray) (h : 0 < u.size) : Lib.decodeGo u = Lib.decodeL u.data.toList := by
  unfold Lib.decodeGo
  rw [if_neg (by omega)]
  have := Lib.decodeL_drop u 0
  rw [List.drop_zero] at this
  exact this.symm
theorem decodeL_bound (l : List UInt8) : (Lib.decodeL l).1 ≤ 1114111 := by
  rw [Lib.decodeL_N]
  have k0 := (l.getD 0 0).toNat_lt
  have k1 := (l.getD 1 0).toNat_lt
  have k2 := (l.getD 2 0).toNat_lt
  have k3 := (l.getD 3 0).toNat_lt
  rcases Lib.decodeN_shape l.length (l.getD 0 0).toNat (l.getD 1 0).toNat (l.getD 2 0).toNat (l.getD 3 0).toNat with ⟨c, e⟩ | ⟨c1, c2, c3, cv, e⟩ | ⟨c1, c2, c3, c4, cv, cs, e⟩ | ⟨c1, c2, c3, c4, c5, cv, cw, e⟩ | e
  all_goals (rw [e]; dsimp only; omega)

/-- the decoding of what stands at a place -/
theorem decode_at' (s : ByteArray) (pos : Nat) (hp : pos < s.size) (w : World) (hT : Tabs w) :
    Calls Tryz.prog 199 #[.string (s.extract pos s.size)] w fun e w' =>
      e = .returned (.tuple #[.int .i32 ((Lib.decodeL (s.data.toList.drop pos)).1 : Int), .int .i64 ((Lib.decodeL (s.data.toList.drop pos)).2 : Int)]) ∧ Below w.heap.size w w' := by
  have h := Tryz.utf8_DecodeRuneInString (s.extract pos s.size) w hT
  rw [decodeGo_L _ (by rw [ByteArray.size_extract]; omega), Lib.extract_to_end] at h
  exact h

/-- what a round keeps: all below n₀, and the text's box -/
structure KpT (n₀ Bs : Nat) (W W' : World) : Prop where
  bel : Below n₀ W W'
  box : W'.heap[Bs]? = W.heap[Bs]?
theorem KpT.refl (n₀ Bs : Nat) (W : World) : KpT n₀ Bs W W := ⟨Below.refl _ _, rfl⟩
theorem KpT.trans {n₀ Bs : Nat} {A B C : World} (h : KpT n₀ Bs A B) (k : KpT n₀ Bs B C) : KpT n₀ Bs A C := ⟨h.bel.trans k.bel, k.box.trans h.box⟩
theorem KpT.of_below {n₀ Bs : Nat} {W W' : World} (h : Below W.heap.size W W') (hn : n₀ ≤ W.heap.size) (hB : Bs < W.heap.size) : KpT n₀ Bs W W' := ⟨h.mono hn, h.block Bs hB⟩
theorem KpT.cell {n₀ Bs : Nat} {W W' : World} (h : KpT n₀ Bs W W') (o : Nat) : W'.cell? ⟨Bs, o, none⟩ = W.cell? ⟨Bs, o, none⟩ := World.cell?_of_block (w := W) h.box
theorem kpT_b {n₀ Bs : Nat} {w : World} (hn : n₀ ≤ w.heap.size) (hB : Bs < w.heap.size) (W : World) (l : Nat) (o o' : Obj) (hl : w.heap.size ≤ l) (h : W.heap[l]? = some o) (h1 : o.isCells = false) (h2 : o.isWalk = false) : KpT n₀ Bs W (W.putObj l o') :=
  ⟨belowK_b hn W l o o' hl h h1 h2, World.putObj_heap_other (by omega)⟩

def encP (x : Int × Bool) : Array Value := #[.int .i64 x.1, .bool x.2]

set_option maxRecDepth 100000 in
set_option maxHeartbeats 4000000 in
theorem iter_in (n : Nat) (hn : 1 ≤ n) (l Bs n₀ : Nat) (s : ByteArray) (hs : s.size ≤ 1048576) (h2 : GsLt n₀) (B : Nat) (J Jx : List (Int × Bool) → World → Prop) (hJ : AbidesFrom B J)
    (hY : ∀ pre x W, J pre W → pre.length < (strm s.data.toList).length → YieldAt Fence.wide (n - 1) Tryz.prog l (encP x) W fun e W' =>
      (e = .returned (.bool true) ∧ J (pre ++ [x]) W' ∧ KpT n₀ Bs W W') ∨ (e = .returned (.bool false) ∧ Jx (pre ++ [x]) W'))
    (W : World) (hW : n₀ ≤ W.heap.size) (hBn : Bs < W.heap.size) (hBs : W.cell? ⟨Bs, 0, none⟩ = some (.string s)) (hT : Tabs W) (h0 : J [] W) :
    CallsIn Fence.wide n Tryz.prog 198 #[.func (.yield l) #[] #[], .pointer (some ⟨Bs, 0, none⟩)] W fun e W' => (∃ v, e = .returned v) ∧
      ((∃ ys, ys = strm s.data.toList ∧ J ys W') ∨ (∃ pre, pre <+: strm s.data.toList ∧ Jx pre W')) := by
  refine callsIn_of_wp Tryz.func198 rfl trivial ?_ rfl
  simp only [Tryz.ntmps198, List.size_toArray, List.length_cons, List.length_nil, Nat.reduceAdd, Nat.reduceSub, Array.replicate_succ, Array.replicate_zero, List.push_toArray, List.append_toArray, List.nil_append, List.cons_append]
  gi_wp2
  gi_loopw [3] (fun i wr => ∃ (pos : Nat) (pre : List (Int × Bool)), pos ≤ s.size ∧ i = .int .i64 pos ∧ strm s.data.toList = pre ++ strm (s.data.toList.drop pos) ∧ J pre wr ∧ KpT n₀ Bs W wr)
    (fun i _ => s.size - (intOf i).toNat)
  case atStart => exact ⟨0, [], Nat.zero_le _, rfl, rfl, h0, KpT.refl _ _ _⟩
  case round =>
    obtain ⟨pos, pre, hpos, rfl, hst, hJs, hnx⟩ := hrel
    have hBs' : wr.cell? ⟨Bs, 0, none⟩ = some (.string s) := (hnx.cell 0).trans hBs
    have HT := Lib.hid (tabs_below hT hnx.bel h2)
    have HW := Lib.hid (Nat.le_trans hW hnx.bel.size)
    have HST := Lib.hid hst
    have HNX := Lib.hid hnx
    have hBw : Bs < wr.heap.size := Nat.lt_of_lt_of_le hBn hnx.bel.size
    clear hst hnx
    by_cases hlt : pos < s.size
    · have hne : s.data.toList.drop pos ≠ [] := by
        intro h
        have := congrArg List.length h
        rw [List.length_drop, show s.data.toList.length = s.size by simp] at this
        simp at this
        omega
      have K := Lib.hid (fun WW (hTT : Tabs WW) => callsIn_wide (n := n - 1).2 (decode_at' s pos hlt WW hTT))
      have hwd := Lib.decodeL_width (s.data.toList.drop pos)
      have hle := Lib.decodeL_le (s.data.toList.drop pos) hne
      rw [List.length_drop, show s.data.toList.length = s.size by simp] at hle
      have hbo := decodeL_bound (s.data.toList.drop pos)
      have hpl : pre.length < (strm s.data.toList).length := by
        rw [HST.out, List.length_append]
        cases hb : badB (s.data.toList.drop pos)
        · rw [strm_step _ hne hb, List.length_cons]; omega
        · rw [strm_bad _ hne hb, List.length_cons]; omega
      have HPL := Lib.hid hpl
      clear hpl
      cases hbd : badB (s.data.toList.drop pos)
      · have HN := Lib.hid (strm_step _ hne hbd)
        rw [List.drop_drop] at HN
        have hnb : ¬ ((Lib.decodeL (s.data.toList.drop pos)).1 = 65533 ∧ (Lib.decodeL (s.data.toList.drop pos)).2 = 1) := by
          unfold badB at hbd
          exact of_decide_eq_false hbd
        clear hne hbd
        generalize (Lib.decodeL (s.data.toList.drop pos)).1 = r at K hbo HN hnb
        generalize (Lib.decodeL (s.data.toList.drop pos)).2 = k at K hwd hle HN hnb
        have hr2 : (r : Int) ≤ 1114111 := by omega
        have hk2 : (pos : Int) + (k : Int) ≤ (s.size : Int) := by omega
        have hs2 : (s.size : Int) ≤ 1048576 := by omega
        by_cases hr : r = 65533
        · have hk1 : ((k : Int) == 1) = false := by rw [beq_eq_false_iff_ne]; omega
          have hr1 : ((r : Int) == 65533) = true := by rw [beq_iff_eq]; omega
          clear hr hnb
          gi_wp2_with fail
          refine ⟨trivial, (K.out _ HT.out).mono ?_⟩
          rintro e w1 ⟨rfl, hb1⟩
          have hJ1 : J pre w1 := hJ pre wr w1 none hJs ⟨hb1.os, hb1.tape, hb1.output, hb1.size, fun i hi _ => hb1.block i hi⟩ (fun r e => by cases e)
          have HN1 := Lib.hid (HNX.out.trans (KpT.of_below hb1 HW.out hBw))
          have hBs1 : w1.cell? ⟨Bs, 0, none⟩ = some (.string s) := (hb1.cell (p := ⟨Bs, 0, none⟩) hBw).trans hBs'
          obtain ⟨fn, tmps, assign, body, hy, hR⟩ := hY pre ((r : Int), true) w1 hJ1 HPL.out
          dsimp only [encP] at hy
          clear hb1 hY
          gi_wp2
          refine hR.mono ?_
          rintro e W3 (⟨rfl, hJ3, hk3⟩ | ⟨rfl, hJx3⟩)
          · gi_wp2
            go_roundw
            case rel => exact ⟨pos + k, pre ++ [((r : Int), true)], by omega, by go_num, by rw [HST.out, HN.out]; simp, hJ3, HN1.out.trans hk3⟩
            case measure => simp [intOf]; omega
          · gi_wp2
            refine bodyPost_ret (results_none rfl _ _ _) rfl ?_
            exact ⟨⟨_, rfl⟩, .inr ⟨pre ++ [((r : Int), true)], ⟨strm (s.data.toList.drop (pos + k)), by rw [HST.out, HN.out]; simp⟩, hJx3⟩⟩
        · have hr1 : ((r : Int) == 65533) = false := by rw [beq_eq_false_iff_ne]; omega
          clear hr hnb
          gi_wp2_with fail
          refine ⟨trivial, (K.out _ HT.out).mono ?_⟩
          rintro e w1 ⟨rfl, hb1⟩
          have hJ1 : J pre w1 := hJ pre wr w1 none hJs ⟨hb1.os, hb1.tape, hb1.output, hb1.size, fun i hi _ => hb1.block i hi⟩ (fun r e => by cases e)
          have HN1 := Lib.hid (HNX.out.trans (KpT.of_below hb1 HW.out hBw))
          have hBs1 : w1.cell? ⟨Bs, 0, none⟩ = some (.string s) := (hb1.cell (p := ⟨Bs, 0, none⟩) hBw).trans hBs'
          obtain ⟨fn, tmps, assign, body, hy, hR⟩ := hY pre ((r : Int), true) w1 hJ1 HPL.out
          dsimp only [encP] at hy
          clear hb1 hY
          gi_wp2
          refine hR.mono ?_
          rintro e W3 (⟨rfl, hJ3, hk3⟩ | ⟨rfl, hJx3⟩)
          · gi_wp2
            go_roundw
            case rel => exact ⟨pos + k, pre ++ [((r : Int), true)], by omega, by go_num, by rw [HST.out, HN.out]; simp, hJ3, HN1.out.trans hk3⟩
            case measure => simp [intOf]; omega
          · gi_wp2
            refine bodyPost_ret (results_none rfl _ _ _) rfl ?_
            exact ⟨⟨_, rfl⟩, .inr ⟨pre ++ [((r : Int), true)], ⟨strm (s.data.toList.drop (pos + k)), by rw [HST.out, HN.out]; simp⟩, hJx3⟩⟩
      · have HN := Lib.hid (strm_bad _ hne hbd)
        have hd : (Lib.decodeL (s.data.toList.drop pos)).1 = 65533 ∧ (Lib.decodeL (s.data.toList.drop pos)).2 = 1 := by
          unfold badB at hbd
          exact of_decide_eq_true hbd
        rw [hd.1, hd.2] at K
        clear hne hbd hd hwd hle hbo
        gi_wp2_with fail
        refine ⟨trivial, (K.out _ HT.out).mono ?_⟩
        rintro e w1 ⟨rfl, hb1⟩
        have hJ1 : J pre w1 := hJ pre wr w1 none hJs ⟨hb1.os, hb1.tape, hb1.output, hb1.size, fun i hi _ => hb1.block i hi⟩ (fun r e => by cases e)
        have HN1 := Lib.hid (HNX.out.trans (KpT.of_below hb1 HW.out hBw))
        have hBs1 : w1.cell? ⟨Bs, 0, none⟩ = some (.string s) := (hb1.cell (p := ⟨Bs, 0, none⟩) hBw).trans hBs'
        obtain ⟨fn, tmps, assign, body, hy, hR⟩ := hY pre ((0 : Int), false) w1 hJ1 HPL.out
        dsimp only [encP] at hy
        clear hb1 hY
        gi_wp2
        refine hR.mono ?_
        rintro e W3 (⟨rfl, hJ3, hk3⟩ | ⟨rfl, hJx3⟩)
        · gi_wp2
          refine bodyPost_ret (results_none rfl _ _ _) rfl ?_
          exact ⟨⟨_, rfl⟩, .inl ⟨_, by rw [HST.out, HN.out], hJ3⟩⟩
        · gi_wp2
          refine bodyPost_ret (results_none rfl _ _ _) rfl ?_
          exact ⟨⟨_, rfl⟩, .inr ⟨_, ⟨[], by rw [HST.out, HN.out]; simp⟩, hJx3⟩⟩
    · obtain rfl : pos = s.size := by omega
      gi_wp2
      go_end0
      refine ⟨⟨_, rfl⟩, .inl ⟨pre, ?_, hJs⟩⟩
      have h := HST.out
      rw [List.drop_eq_nil_of_le (by rw [show s.data.toList.length = s.size by simp]; exact Nat.le_refl _), strm_nil, List.append_nil] at h
      exact h.symm

/-- the iterator's value: the text in a box -/
theorem pointsIn_in (n : Nat) (s : ByteArray) (w : World) :
    CallsIn Fence.wide n Tryz.prog 141 #[.string s] w fun e w' => e = .returned (.func (.func 198) #[] #[.pointer (some ⟨w.heap.size, 0, none⟩)]) ∧ w' = w.alloc (.cells #[.string s] 9) := by
  refine callsIn_of_wp Tryz.func141 rfl trivial ?_ rfl
  simp only [Tryz.ntmps141, List.size_toArray, List.length_cons, List.length_nil, Nat.reduceAdd, Nat.reduceSub, Array.replicate_succ, Array.replicate_zero, List.push_toArray, List.append_toArray, List.nil_append, List.cons_append]
  gi_wp2
  go_ret
  exact ⟨rfl, rfl⟩

theorem iter_stops (n : Nat) (hn : 1 ≤ n) (Bs n₀ : Nat) (s : ByteArray) (hs : s.size ≤ 1048576) (h2 : GsLt n₀) (w : World) (hB : Bs < w.heap.size) (hn₀ : n₀ ≤ w.heap.size) (hc : w.cell? ⟨Bs, 0, none⟩ = some (.string s))
    (hT : Tabs w) :
    SeqStopsK Fence.wide n Tryz.prog 198 #[.pointer (some ⟨Bs, 0, none⟩)] encP (KpT n₀ Bs) (fun ys => ys = strm s.data.toList) (fun pre => pre <+: strm s.data.toList) (strm s.data.toList).length w :=
  fun l J Jx W hW hJ hJx hY h0 =>
    iter_in n hn l Bs n₀ s hs h2 W.heap.size J Jx hJ hY W (Nat.le_trans hn₀ hW.size) (Nat.lt_of_lt_of_le hB hW.size) ((hW.cell (p := ⟨Bs, 0, none⟩) hB).trans hc) (tabs_kept hT hW) h0

/-- a call that only made memory turns nothing else -/
theorem keeps_below {W W' : World} (h : Below W.heap.size W W') : KeepsOthers W W' :=
  ⟨h.size, fun k o hk _ => (h.block k (Array.getElem?_eq_some_iff.1 hk).1).trans hk⟩
end Go.Proofs.YtcaknhoaoodbfaaGreatDoor
