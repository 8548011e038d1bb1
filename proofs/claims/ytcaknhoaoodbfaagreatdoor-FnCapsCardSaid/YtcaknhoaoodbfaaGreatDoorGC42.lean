/- The iterator over the pieces of a row of bytes. -/
import Derived.RangeFuncNested
import Derived.RangeFuncBound
import Derived.RangeFuncCalls
import Derived.RangeFuncLeaves
import Derived.RangeFuncBox
import Derived.Maps.AppendAt
import Derived.Shelf.Abstract
import Derived.Shelf.RegionOpen
import Derived.WalkKit
import Derived.OwnWalkIn
import Derived.TacticsInMore
import Derived.LoopNIn
import Derived.LoopIn
import Derived.Test.YtcaknhoaoodbfaaGreatDoorGC0
namespace Go.Proofs.YtcaknhoaoodbfaaGreatDoor
open Go.RowKit Go.Shelf
set_option linter.unusedVariables false

attribute [local go_sem] Oper.semAt_some

/-- what a round keeps: all below n₀, and the two boxes -/
structure KpC (n₀ Bs : Nat) (W W' : World) : Prop where
  bel : Below n₀ W W'
  box : W'.heap[Bs]? = W.heap[Bs]?
  box1 : W'.heap[Bs + 1]? = W.heap[Bs + 1]?
theorem KpC.refl (n₀ Bs : Nat) (W : World) : KpC n₀ Bs W W := ⟨Below.refl _ _, rfl, rfl⟩
theorem KpC.trans {n₀ Bs : Nat} {A B C : World} (h : KpC n₀ Bs A B) (k : KpC n₀ Bs B C) : KpC n₀ Bs A C := ⟨h.bel.trans k.bel, k.box.trans h.box, k.box1.trans h.box1⟩
theorem KpC.cell {n₀ Bs : Nat} {W W' : World} (h : KpC n₀ Bs W W') (o : Nat) : W'.cell? ⟨Bs, o, none⟩ = W.cell? ⟨Bs, o, none⟩ := World.cell?_of_block (w := W) h.box
theorem KpC.cell1 {n₀ Bs : Nat} {W W' : World} (h : KpC n₀ Bs W W') (o : Nat) : W'.cell? ⟨Bs + 1, o, none⟩ = W.cell? ⟨Bs + 1, o, none⟩ := World.cell?_of_block (w := W) h.box1
theorem kpC_b {n₀ Bs : Nat} {w : World} (hn : n₀ ≤ w.heap.size) (hB : Bs + 1 < w.heap.size) (W : World) (l : Nat) (o o' : Obj) (hl : w.heap.size ≤ l) (h : W.heap[l]? = some o) (h1 : o.isCells = false) (h2 : o.isWalk = false) : KpC n₀ Bs W (W.putObj l o') :=
  ⟨belowK_b hn W l o o' hl h h1 h2, World.putObj_heap_other (by omega), World.putObj_heap_other (by omega)⟩

/-- the places of the pieces -/
abbrev Piece (k m : Nat) : Type := { j : Nat // k * j < m }
/-- a piece as it is handed over -/
def encC (b o m k : Nat) (x : Piece k m) : Array Value := #[.slice (some ⟨b, o + k * x.1, none⟩) (min k (m - k * x.1)) (min k (m - k * x.1))]
def pieces (k m : Nat) : Nat := (m + (k - 1)) / k
theorem piece_lt {k m j : Nat} (hk : 1 ≤ k) : k * j < m ↔ j < pieces k m := by
  unfold pieces
  rw [Nat.lt_div_iff_mul_lt (by omega), Nat.mul_comm k j]
  omega

set_option maxRecDepth 100000 in
set_option maxHeartbeats 4000000 in
theorem chunkIter_in (n : Nat) (hn : 1 ≤ n) (l Bs n₀ : Nat) (a : Option Addr) (b o m c k : Nat) (hk : 1 ≤ k) (hk2 : k ≤ 64) (hm : m ≤ 1048576) (hmc : m ≤ c) (hc : c ≤ maxLen) (ha : m = 0 ∨ a = some ⟨b, o, none⟩) (B : Nat) (J Jx : List (Piece k m) → World → Prop) (hJ : AbidesFrom B J)
    (hY : ∀ pre x W, J pre W → pre.length < pieces k m → YieldAt Fence.wide (n - 1) Tryz.prog l (encC b o m k x) W fun e W' =>
      (e = .returned (.bool true) ∧ J (pre ++ [x]) W' ∧ KpC n₀ Bs W W') ∨ (e = .returned (.bool false) ∧ Jx (pre ++ [x]) W'))
    (W : World) (hW : n₀ ≤ W.heap.size) (hBn : Bs + 1 < W.heap.size) (hBs : W.cell? ⟨Bs, 0, none⟩ = some (.slice a m c)) (hBk : W.cell? ⟨Bs + 1, 0, none⟩ = some (.int .i64 k)) (h0 : J [] W) :
    CallsIn Fence.wide n Tryz.prog 210 #[.func (.yield l) #[] #[], .pointer (some ⟨Bs, 0, none⟩), .pointer (some ⟨Bs + 1, 0, none⟩)] W fun e W' => (∃ v, e = .returned v) ∧
      ((∃ ys, ys.map (·.1) = List.range (pieces k m) ∧ J ys W') ∨ (∃ pre, True ∧ Jx pre W')) := by
  refine callsIn_of_wp Tryz.func210 rfl trivial ?_ rfl
  simp only [Tryz.ntmps210, List.size_toArray, List.length_cons, List.length_nil, Nat.reduceAdd, Nat.reduceSub, Array.replicate_succ, Array.replicate_zero, List.push_toArray, List.append_toArray, List.nil_append, List.cons_append]
  unfold maxLen at hc
  gi_wp2
  gi_loopw [4] (fun i wr => ∃ (j : Nat) (pre : List (Piece k m)), j ≤ pieces k m ∧ i = .int .i64 ((k * j : Nat) : Int) ∧ pre.map (·.1) = List.range j ∧ J pre wr ∧ KpC n₀ Bs W wr)
    (fun i _ => m - (intOf i).toNat)
  case atStart => exact ⟨0, [], Nat.zero_le _, by simp, rfl, h0, KpC.refl _ _ _⟩
  case round =>
    obtain ⟨j, pre, hj, rfl, hpre, hJs, hnx⟩ := hrel
    have hBs' : wr.cell? ⟨Bs, 0, none⟩ = some (.slice a m c) := (hnx.cell 0).trans hBs
    have hBk' : wr.cell? ⟨Bs + 1, 0, none⟩ = some (.int .i64 k) := (hnx.cell1 0).trans hBk
    have HPRE := Lib.hid hpre
    have HNX := Lib.hid hnx
    clear hpre hnx hBs hBk
    by_cases hlt : k * j < m
    · obtain rfl : a = some ⟨b, o, none⟩ := ha.resolve_left (by omega)
      have hjp := (piece_lt hk).1 hlt
      have hlen : pre.length = j := by
        have := congrArg List.length HPRE.out
        simpa using this
      have HLEN := Lib.hid hlen
      clear hlen
      have hJd : J pre wr.drew := hJ pre wr wr.drew none hJs ⟨rfl, rfl, rfl, Nat.le_refl _, fun i hi _ => rfl⟩ (fun r e => by cases e)
      have HNXd := Lib.hid (⟨HNX.out.bel.drew, HNX.out.box, HNX.out.box1⟩ : KpC n₀ Bs W wr.drew)
      obtain ⟨fn, tmps, assign, body, hy, hR⟩ := hY pre ⟨j, hlt⟩ wr.drew hJd (by rw [HLEN.out]; exact hjp)
      dsimp only [encC] at hy
      have hnext : k * (j + 1) = k * j + k := by rw [Nat.mul_add, Nat.mul_one]
      have HN := Lib.hid hnext
      clear hnext hY hJ hJs hJd
      have HX := Lib.hid (show ∀ xs : List Nat, xs = List.range j → xs ++ [j] = List.range (j + 1) from fun xs h => by rw [h, List.range_succ])
      obtain ⟨i, hi⟩ : ∃ i, k * j = i := ⟨_, rfl⟩
      have him : i < m := by omega
      rw [hi] at hy
      rw [hi]
      have HI := Lib.hid hi
      have HR := Lib.hid hR
      clear hi hR ha
      by_cases hkm : k ≤ m - i
      · have hmin : min k (m - i) = k := by omega
        rw [hmin] at hy
        have e1 : ((i : Int) + (k : Int)).toNat - i = k := by omega
        have e2 : (i : Int) + (k : Int) ≤ (m : Int) := by omega
        clear hmin
        gi_wp2
        gi_region
        gi_wp2
        refine HR.out.mono ?_
        rintro e W3 (⟨rfl, hJ3, hk3⟩ | ⟨rfl, hJx3⟩)
        · have hBk3 : W3.cell? ⟨Bs + 1, 0, none⟩ = some (.int .i64 k) := (hk3.cell1 0).trans hBk'
          have HK3 := Lib.hid (HNXd.out.trans hk3)
          clear hk3
          gi_wp2
          go_roundw
          case rel => exact ⟨j + 1, pre ++ [⟨j, hlt⟩], by omega, by rw [HN.out, HI.out]; go_num, by rw [List.map_append]; exact HX.out _ HPRE.out, hJ3, HK3.out⟩
          case measure => simp [intOf]; omega
        · gi_wp2
          refine bodyPost_ret (results_none rfl _ _ _) rfl ?_
          exact ⟨⟨_, rfl⟩, .inr ⟨_, trivial, hJx3⟩⟩
      · have hmin : min k (m - i) = m - i := by omega
        rw [hmin] at hy
        have e1 : ((i : Int) + ((m - i : Nat) : Int)).toNat - i = m - i := by omega
        clear hmin
        gi_wp2
        gi_region
        gi_wp2
        refine HR.out.mono ?_
        rintro e W3 (⟨rfl, hJ3, hk3⟩ | ⟨rfl, hJx3⟩)
        · have hBk3 : W3.cell? ⟨Bs + 1, 0, none⟩ = some (.int .i64 k) := (hk3.cell1 0).trans hBk'
          have HK3 := Lib.hid (HNXd.out.trans hk3)
          clear hk3
          gi_wp2
          go_roundw
          case rel => exact ⟨j + 1, pre ++ [⟨j, hlt⟩], by omega, by rw [HN.out, HI.out]; go_num, by rw [List.map_append]; exact HX.out _ HPRE.out, hJ3, HK3.out⟩
          case measure => simp [intOf]; omega
        · gi_wp2
          refine bodyPost_ret (results_none rfl _ _ _) rfl ?_
          exact ⟨⟨_, rfl⟩, .inr ⟨_, trivial, hJx3⟩⟩
    · obtain rfl : j = pieces k m := by
        rw [piece_lt hk] at hlt
        omega
      have hge : (m : Int) ≤ ((k * pieces k m : Nat) : Int) := by omega
      gi_wp2
      go_end0
      exact ⟨⟨_, rfl⟩, .inl ⟨pre, HPRE.out, hJs⟩⟩

/-- the iterator's value: the row and the number in boxes -/
theorem chunk_in (n : Nat) (a : Option Addr) (m c k : Nat) (hk : 1 ≤ k) (w : World) :
    CallsIn Fence.wide n Tryz.prog 164 #[.slice a m c, .int .i64 k] w fun e w' => e = .returned (.func (.func 210) #[] #[.pointer (some ⟨w.heap.size, 0, none⟩), .pointer (some ⟨w.heap.size + 1, 0, none⟩)]) ∧ w' = (w.alloc (.cells #[.slice a m c] 22)).alloc (.cells #[.int .i64 k] 3) := by
  refine callsIn_of_wp Tryz.func164 rfl trivial ?_ rfl
  simp only [Tryz.ntmps164, List.size_toArray, List.length_cons, List.length_nil, Nat.reduceAdd, Nat.reduceSub, Array.replicate_succ, Array.replicate_zero, List.push_toArray, List.append_toArray, List.nil_append, List.cons_append]
  gi_wp2
  go_ret
  exact ⟨rfl, rfl⟩

theorem chunk_stops (n : Nat) (hn : 1 ≤ n) (Bs n₀ : Nat) (a : Option Addr) (b o m c k : Nat) (hk : 1 ≤ k) (hk2 : k ≤ 64) (hm : m ≤ 1048576) (hmc : m ≤ c) (hc : c ≤ maxLen) (ha : m = 0 ∨ a = some ⟨b, o, none⟩) (w : World) (hB : Bs + 1 < w.heap.size) (hn₀ : n₀ ≤ w.heap.size)
    (hBs : w.cell? ⟨Bs, 0, none⟩ = some (.slice a m c)) (hBk : w.cell? ⟨Bs + 1, 0, none⟩ = some (.int .i64 k)) :
    SeqStopsK Fence.wide n Tryz.prog 210 #[.pointer (some ⟨Bs, 0, none⟩), .pointer (some ⟨Bs + 1, 0, none⟩)] (encC b o m k) (KpC n₀ Bs) (fun ys => ys.map (·.1) = List.range (pieces k m)) (fun pre => True) (pieces k m) w :=
  fun l J Jx W hW hJ hJx hY h0 =>
    chunkIter_in n hn l Bs n₀ a b o m c k hk hk2 hm hmc hc ha W.heap.size J Jx hJ hY W (Nat.le_trans hn₀ hW.size) (Nat.lt_of_lt_of_le hB hW.size) ((hW.cell (p := ⟨Bs, 0, none⟩) (by show Bs < w.heap.size; omega)).trans hBs) ((hW.cell (p := ⟨Bs + 1, 0, none⟩) hB).trans hBk) h0
end Go.Proofs.YtcaknhoaoodbfaaGreatDoor
