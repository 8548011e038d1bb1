/- spec.l7Leaf. -/
import Derived.Test.YtppgdbejbhhjlaaGreatDoorGF16
import Derived.IntWalk
import Derived.Test.YtppgdbejbhhjlaaGreatDoorGF13
namespace Go.Proofs.YtppgdbejbhhjlaaGreatDoor
open Go.ChangeShapes Go.WideShapes Go.ChangeAt Go.RowKit
set_option linter.unusedVariables false

theorem grown_made {w : World} (o : Obj) (r : Option Nat) : w.grownBy (w.alloc o) r := (fun h => ⟨h.os, h.tape, h.output, h.size, fun i hi _ => h.block i hi⟩ : Below w.heap.size w (w.alloc o) → _) (below1 w o)
theorem grown_in {a b c : World} {x : Option Nat} {g : Nat} (h : a.grownBy b x) (hg : b.grownBy c (some g)) (hr : a.heap.size ≤ g) : a.grownBy c x :=
  ⟨hg.os.trans h.os, hg.tape.trans h.tape, hg.output.trans h.output, Nat.le_trans h.size hg.size, fun i hi hne => (hg.block i (Nat.lt_of_lt_of_le hi h.size) (fun e => by cases e; omega)).trans (h.block i hi hne)⟩
set_option maxRecDepth 100000 in
set_option maxHeartbeats 3200000 in
theorem l7Leaf_any (B : Nat) (a : Option Addr) (n c : Nat) (l : List It) (A : Nat → Option Addr) (N C : Nat → Nat) (d : Int) (sp nm t : ByteArray) (w : World) (hB : B ≤ w.heap.size) (hn : n ≤ 1000) (hd : -1000 ≤ d ∧ d ≤ 1000) (h : GrowIts w B (.slice a n c) n l A N C) :
    Calls Tryz.prog 68 #[.slice a n c, .int .i64 d, .string sp, .string nm, .string t] w (GrownRes w B (.slice a n c) (l ++ leafL d sp nm t)) := by
  obtain ⟨i0, hi, hz0, hi1, hz2⟩ := info_parts itemInfo
  have hw1 : IntKind.i64.wrap (d + 1) = d + 1 := IntWalk.i64_in _ (by omega)
  have hw2 : wrap64 (d + 1) = d + 1 := IntWalk.wrap64_in _ (by omega)
  have H := Lib.hid h
  unfold GrownRes leafL
  obtain ⟨tl, ht⟩ : ∃ tl, (if t.toList.isEmpty then [] else [(⟨d + 1, t, ByteArray.empty, ByteArray.empty, []⟩ : It)]) = tl := ⟨_, rfl⟩
  rw [ht]
  have HTL := Lib.hid ht
  clear h ht
  go_enter Tryz.func68, Tryz.ntmps68
  go_wp2_with (at_builtin; refine wpList_append_own_at _ rfl _ _ 24 rfl B 71 i0 (.agg #[.int .i64 0, .string ByteArray.empty, .string ByteArray.empty, .string ByteArray.empty, .slice none 0 0]) 5 80 Tryz.underlying24 hi hz0 hi1 hz2 rfl (by decide) _ n _ rfl (H.out.row.alloc _) ⟨w.heap.size, 0, none⟩ 1 1 [.int .i64 d, .string ⟨#[]⟩, .string sp, .string nm, .slice none 0 0] rfl rfl ?c1 ?c2 ?c3 ?c4 ?c5 ?_)
  case c1 => exact fun j u hj => itemCells w _ _ _ _ _ j u hj
  case c2 => intro v hv; simp at hv; rcases hv with rfl | rfl | rfl | rfl | rfl <;> rfl
  case c3 => unfold maxLen; omega
  case c4 => omega
  case c5 => simp; omega
  intro v' w1 hown hgr _ hat
  obtain ⟨a1, c1, rfl⟩ := owns_slice hown
  have G1 := Lib.hid (H.out.snoc (x := ⟨d, ⟨#[]⟩, sp, nm, []⟩) (below1 w (.cells #[.int .i64 d, .string ⟨#[]⟩, .string sp, .string nm, .slice none 0 0] 71)) (bareAts _ _ _) (fun _ => rfl) hB hown hgr (hat.imp id fun e => ⟨w.heap.size + 1, by simpa using e, by simp⟩))
  have E1 := Lib.hid (grown_trans_row (grown_made (w := w) (.cells #[.int .i64 d, .string ⟨#[]⟩, .string sp, .string nm, .slice none 0 0] 71) (Value.slice a n c).ownBlock) hgr)
  have T1 := Lib.hid (hat.imp id fun e => (⟨w.heap.size + 1, by simpa using e, by omega⟩ : ∃ g, (Value.slice a1 (n + 1) c1).ownBlock = some g ∧ w.heap.size ≤ g))
  have hz1 : w.heap.size + 1 ≤ w1.heap.size := by have := hgr.size; simpa using this
  clear hown hgr hat
  cases he : t.toList.isEmpty
  · go_wp2_with (at_builtin; refine wpList_append_own_at _ rfl _ _ 24 rfl B 71 i0 (.agg #[.int .i64 0, .string ByteArray.empty, .string ByteArray.empty, .string ByteArray.empty, .slice none 0 0]) 5 80 Tryz.underlying24 hi hz0 hi1 hz2 rfl (by decide) _ (n + 1) _ rfl (G1.out.row.alloc _) ⟨w1.heap.size, 0, none⟩ 1 1 [.int .i64 (d + 1), .string t, .string ⟨#[]⟩, .string ⟨#[]⟩, .slice none 0 0] rfl rfl ?c1 ?c2 ?c3 ?c4 ?c5 ?_)
    case c1 => exact fun j u hj => itemCells w1 _ _ _ _ _ j u hj
    case c2 => intro v hv; simp at hv; rcases hv with rfl | rfl | rfl | rfl | rfl <;> rfl
    case c3 => unfold maxLen; omega
    case c4 => omega
    case c5 => simp; omega
    intro v' w2 hown hgr _ hat
    obtain ⟨a2, c2, rfl⟩ := owns_slice hown
    have G2 := Lib.hid (G1.out.snoc (x := ⟨d + 1, t, ⟨#[]⟩, ⟨#[]⟩, []⟩) (below1 w1 (.cells #[.int .i64 (d + 1), .string t, .string ⟨#[]⟩, .string ⟨#[]⟩, .slice none 0 0] 71)) (bareAts _ _ _) (fun _ => rfl) (by omega) hown hgr (hat.imp id fun e => ⟨w1.heap.size + 1, by simpa using e, by simp⟩))
    have E2 : Hid (w.grownBy w2 (Value.slice a n c).ownBlock) := Lib.hid (by
      have hg2 := grown_trans_row (grown_made (w := w1) (.cells #[.int .i64 (d + 1), .string t, .string ⟨#[]⟩, .string ⟨#[]⟩, .slice none 0 0] 71) (Value.slice a1 (n + 1) c1).ownBlock) hgr
      rcases T1.out with e | ⟨g, e, hg⟩
      · rw [e] at hg2
        exact grown_trans_row E1.out hg2
      · rw [e] at hg2
        exact grown_in E1.out hg2 hg)
    have T2 : Hid ((Value.slice a2 (n + 1 + 1) c2).ownBlock = (Value.slice a n c).ownBlock ∨ ∃ g, (Value.slice a2 (n + 1 + 1) c2).ownBlock = some g ∧ w.heap.size ≤ g) := Lib.hid (by
      rcases hat with e | e
      · rw [e]; exact T1.out
      · exact .inr ⟨w1.heap.size + 1, by simpa using e, by omega⟩)
    clear hown hgr hat
    go_wp2
    go_ret
    have G3 := G2.out
    have htl := HTL.out
    rw [if_neg (by rw [he]; simp)] at htl
    rw [← htl]
    rw [List.append_assoc] at G3
    exact ⟨_, _, _, _, _, _, rfl, G3, E2.out, T2.out⟩
  · go_wp2
    go_ret
    have htl := HTL.out
    rw [if_pos he] at htl
    rw [← htl]
    exact ⟨_, _, _, _, _, _, rfl, G1.out, E1.out, T1.out⟩
end Go.Proofs.YtppgdbejbhhjlaaGreatDoor

/- toAttr, toAttrS, toItem, toItemS: what came in is copied. -/
namespace Go.Proofs.YtppgdbejbhhjlaaGreatDoor
open Go.ChangeShapes Go.WideShapes Go.ChangeAt Go.RowKit
set_option linter.unusedVariables false

set_option maxHeartbeats 400000 in
theorem toAttr_any (s t : ByteArray) (w : World) :
    Calls Tryz.prog 219 #[.agg #[.string s, .string t]] w fun e w' => e = .returned (.agg #[.string s, .string t]) ∧ Below w.heap.size w w' := by
  go_enter Tryz.func219, Tryz.ntmps219
  go_wp2
  exact bodyPost_ret (v := .agg #[.string s, .string t]) (by simp [results, Tryz.results219, go_sem]) rfl ⟨rfl, below3 _ _ _ _⟩

set_option maxRecDepth 100000 in
set_option maxHeartbeats 1600000 in
theorem toAttrS_any (a : Option Addr) (n c : Nat) (l : List At) (w : World) (hn : l.length ≤ 1048576) (h : AtsAt w a n c l) :
    Calls Tryz.prog 171 #[.slice a n c] w (AtsRes w l) := by
  obtain ⟨i0, hi, hz0, hz1, hz2⟩ := info_parts attrInfo
  have HR := Lib.hid h.row
  have HS := Lib.hid h.size
  have HL := Lib.hid h.len
  have hn' : n ≤ 1048576 := by have := h.len; omega
  clear h hn
  go_enter Tryz.func171, Tryz.ntmps171
  go_wp2_with (at_make; refine wpList_make_full _ rfl _ _ 66 rfl w.heap.size 69 i0 _ 2 Tryz.underlying66 hi hz0 hz1 .i64 .i64 (n : Int) (n : Int) n rfl rfl rfl rfl ?c1 ?c2 ?c3 ?_)
  case c1 => rw [hz2]; omega
  case c2 => unfold maxLen; omega
  case c3 => exact Nat.le_refl _
  intro w1 ho1 hg1
  have HRoom := Lib.hid (room_made ho1)
  have HB1 := Lib.hid (below_made hg1)
  clear ho1 hg1
  go_wp2
  go_loopw [4] (fun i wr => ∃ j : Nat, j ≤ n ∧ i = .int .i64 j ∧ Room wr w.heap.size (n * 2) ∧ (∀ i, i < j → wr.cell? ⟨w.heap.size, i * 2, none⟩ = some (.string (l.getD i dAt).name) ∧ wr.cell? ⟨w.heap.size, i * 2 + 1, none⟩ = some (.string (l.getD i dAt).value)) ∧ Below w.heap.size w wr) (fun i _ => n - (intOf i).toNat)
  case atStart => exact ⟨0, Nat.zero_le _, rfl, HRoom.out, fun i hi => by omega, HB1.out⟩
  case round =>
    obtain ⟨j, hj, rfl, hroom, hdone, hb⟩ := hrel
    by_cases hlt : j < n
    · rcases HR.out with h0 | ⟨b, o, rfl, h3, h4⟩
      · omega
      · have d0 : wr.cell? ⟨b, o + j * 2, none⟩ = some (.string (l.getD j dAt).name) := (hb.cell (by exact h3)).trans (h4 j hlt).1
        have d1 : wr.cell? ⟨b, o + j * 2 + 1, none⟩ = some (.string (l.getD j dAt).value) := (hb.cell (by exact h3)).trans (h4 j hlt).2
        have HX := Lib.hid (show ∃ x, x = l.getD j dAt from ⟨_, rfl⟩)
        obtain ⟨s, hs⟩ : ∃ s, (l.getD j dAt).name = s := ⟨_, rfl⟩
        obtain ⟨t, ht⟩ : ∃ t, (l.getD j dAt).value = t := ⟨_, rfl⟩
        rw [hs] at d0
        rw [ht] at d1
        have HS1 := Lib.hid hs
        have HT1 := Lib.hid ht
        have HROOM := Lib.hid hroom
        have HDONE := Lib.hid hdone
        have HB := Lib.hid hb
        clear hs ht h4 hroom hdone hb
        go_wp2_with fail
        refine (toAttr_any s t _).mono ?_
        rintro e w2 ⟨rfl, hb2⟩
        have hr2 := HROOM.out.below hb2
        obtain ⟨⟨v0, q0⟩, f0⟩ := hr2.2 (j * 2) (by omega)
        obtain ⟨⟨v1, q1⟩, f1⟩ := hr2.2 (j * 2 + 1) (by omega)
        have HR2 := Lib.hid hr2
        have HB2 := Lib.hid hb2
        clear hr2 hb2 d0 d1
        go_wp2
        go_roundw
        case rel =>
          exact ⟨j + 1, by omega, by go_num, (HR2.out.set _ _).set _ _, ats_step HR2.out hlt HS1.out HT1.out (fun i hi => ⟨(HB2.out.cell (p := ⟨w.heap.size, i * 2, none⟩) HROOM.out.1).trans (HDONE.out i hi).1, (HB2.out.cell (p := ⟨w.heap.size, i * 2 + 1, none⟩) HROOM.out.1).trans (HDONE.out i hi).2⟩),
            ((HB.out.trans (HB2.out.mono HB.out.size)).setCell (p := ⟨w.heap.size, j * 2, none⟩) (Nat.le_refl _) _).setCell (p := ⟨w.heap.size, j * 2 + 1, none⟩) (Nat.le_refl _) _⟩
        case measure => simp [intOf]; omega
    · obtain rfl : j = n := by omega
      have HROOM := Lib.hid hroom
      have HDONE := Lib.hid hdone
      have HB := Lib.hid hb
      clear hroom hdone hb
      go_wp2
      go_ret
      exact ⟨_, _, _, rfl, ⟨HL.out, by omega, HS.out, .inr ⟨w.heap.size, 0, rfl, HROOM.out.1, fun i hi => by rw [Nat.zero_add]; exact HDONE.out i hi⟩⟩, fun x hx => by cases hx; exact Nat.le_refl _, HB.out⟩

set_option maxHeartbeats 800000 in
theorem toItem_any (x : It) (a : Option Addr) (n c : Nat) (w : World) (hn : x.attrs.length ≤ 1048576) (h : AtsAt w a n c x.attrs) :
    Calls Tryz.prog 103 #[.agg #[.int .i64 x.depth, .string x.text, .string x.space, .string x.name, .slice a n c]] w (ItRes w x) := by
  obtain ⟨d, s, t, u, l⟩ := x
  dsimp only at hn h ⊢
  have K := Lib.hid (fun W (hb : Below w.heap.size w W) => toAttrS_any a n c l W hn (h.below hb))
  clear h
  go_enter Tryz.func103, Tryz.ntmps103
  go_wp2_with fail
  refine (K.out _ (below3 _ _ _ _)).mono ?_
  rintro e w1 ⟨a1, n1, c1, rfl, hat, hsep, hb⟩
  obtain ⟨hc, hf⟩ := bcell hb
  have hz : w.heap.size + 2 < w1.heap.size := by have := hb.size; simp at this; omega
  have HAT := Lib.hid hat
  have HSEP := Lib.hid hsep
  have HB := Lib.hid hb
  clear hat hsep hb
  go_wp2
  refine bodyPost_ret (v := .agg #[.int .i64 d, .string s, .string t, .string u, .slice a1 n1 c1]) (by simp [results, Tryz.results103, go_sem, hc]) rfl ⟨_, _, _, rfl, ?_, ?_, ?_⟩
  · have hs : ∀ y, a1 = some y → w.heap.size + 2 < y.block := fun y hy => by have := HSEP.out y hy; simp at this; omega
    have hs1 : ∀ y, a1 = some y → w.heap.size + 1 < y.block := fun y hy => by have := hs y hy; omega
    exact (((((HAT.out.set hs).set hs1).set hs1).set hs1).set hs1).set hs1
  · intro y hy
    have := HSEP.out y hy
    simp at this
    omega
  · have hb := below_then (below3 _ _ _ _) HB.out
    exact (((((hb.setCell (by simp; omega) _).setCell (by simp) _).setCell (by simp) _).setCell (by simp) _).setCell (by simp) _).setCell (by simp) _

set_option maxRecDepth 100000 in
set_option maxHeartbeats 1600000 in
theorem toItemS_any (a : Option Addr) (n c : Nat) (l : List It) (w : World) (hn : SmallIts l) (h : ItsAt w a n c l) :
    Calls Tryz.prog 48 #[.slice a n c] w (ItsRes w l) := by
  obtain ⟨i0, hi, hz0, hz1, hz2⟩ := info_parts itemInfo
  have HR := Lib.hid h.row
  have HL := Lib.hid h.len
  have hn' : n ≤ 1048576 := by have := h.len; have := hn.1; omega
  have HN := Lib.hid (fun i hi => (hn.2 i hi).2.1)
  clear h hn
  go_enter Tryz.func48, Tryz.ntmps48
  go_wp2_with (at_make; refine wpList_make_full _ rfl _ _ 24 rfl w.heap.size 71 i0 _ 5 Tryz.underlying24 hi hz0 hz1 .i64 .i64 (n : Int) (n : Int) n rfl rfl rfl rfl ?c1 ?c2 ?c3 ?_)
  case c1 => rw [hz2]; omega
  case c2 => unfold maxLen; omega
  case c3 => exact Nat.le_refl _
  intro w1 ho1 hg1
  have HRoom := Lib.hid (room_made ho1)
  have HB1 := Lib.hid (below_made hg1)
  clear ho1 hg1
  go_wp2
  go_loopw [4] (fun i wr => ∃ j : Nat, j ≤ n ∧ i = .int .i64 j ∧ Room wr w.heap.size (n * 5) ∧ (∀ i, i < j → ItNew wr w.heap.size (i * 5) (l.getD i dIt)) ∧ Below w.heap.size w wr) (fun i _ => n - (intOf i).toNat)
  case atStart => exact ⟨0, Nat.zero_le _, rfl, HRoom.out, fun i hi => by omega, HB1.out⟩
  case round =>
    obtain ⟨j, hj, rfl, hroom, hdone, hb⟩ := hrel
    by_cases hlt : j < n
    · rcases HR.out with h0 | ⟨b, o, rfl, h4⟩
      · omega
      · have hi4 := (h4 j hlt).below hb
        have d0 := hi4.c0
        have d1 := hi4.c1
        have d2 := hi4.c2
        have d3 := hi4.c3
        obtain ⟨a4, n4, c4, d4, hat4⟩ := hi4.c4
        have K := Lib.hid (fun W => toItem_any (l.getD j dIt) a4 n4 c4 W (HN.out j (by have := HL.out; omega)))
        have HWF := Lib.hid hi4.wf
        have HSZ := Lib.hid hi4.size
        have HAT4 := Lib.hid hat4
        obtain ⟨x, hx⟩ : ∃ x, l.getD j dIt = x := ⟨_, rfl⟩
        rw [hx] at d0 d1 d2 d3 K HWF HSZ HAT4
        have HX := Lib.hid hx
        have HROOM := Lib.hid hroom
        have HDONE := Lib.hid hdone
        have HB := Lib.hid hb
        obtain ⟨xd, xt, xs, xn, xa⟩ := x
        dsimp only at d0 d1 d2 d3 K HWF HSZ HAT4
        clear hx hi4 hat4 h4 hroom hdone hb
        go_wp2_with fail
        refine (K.out _ HAT4.out).mono ?_
        rintro e w2 ⟨a5, n5, c5, rfl, hat5, hsep5, hb2⟩
        have hr2 := HROOM.out.below hb2
        obtain ⟨⟨v0, q0⟩, f0⟩ := hr2.2 (j * 5) (by omega)
        obtain ⟨⟨v1, q1⟩, f1⟩ := hr2.2 (j * 5 + 1) (by omega)
        obtain ⟨⟨v2, q2⟩, f2⟩ := hr2.2 (j * 5 + 2) (by omega)
        obtain ⟨⟨v3, q3⟩, f3⟩ := hr2.2 (j * 5 + 3) (by omega)
        obtain ⟨⟨v4, q4⟩, f4⟩ := hr2.2 (j * 5 + 4) (by omega)
        have HR2 := Lib.hid hr2
        have HB2 := Lib.hid hb2
        have HAT5 := Lib.hid hat5
        have HSEP := Lib.hid (fun y hy => Nat.lt_of_lt_of_le HROOM.out.1 (hsep5 y hy))
        clear hr2 hb2 hat5 hsep5 d0 d1 d2 d3 d4
        go_wp2
        go_roundw
        case rel =>
          refine ⟨j + 1, by omega, by go_num, ((((HR2.out.set _ _).set _ _).set _ _).set _ _).set _ _, its_step (x := ⟨xd, xt, xs, xn, xa⟩) HR2.out hlt HX.out HWF.out HSZ.out HAT5.out HSEP.out (fun i hi => (HDONE.out i hi).below HB2.out), ?_⟩
          have hb3 := HB.out.trans (HB2.out.mono HB.out.size)
          exact ((((hb3.setCell (Nat.le_refl _) _).setCell (Nat.le_refl _) _).setCell (Nat.le_refl _) _).setCell (Nat.le_refl _) _).setCell (Nat.le_refl _) _
        case measure => simp [intOf]; omega
    · obtain rfl : j = n := by omega
      have HROOM := Lib.hid hroom
      have HDONE := Lib.hid hdone
      have HB := Lib.hid hb
      clear hroom hdone hb
      go_wp2
      go_ret
      exact ⟨_, _, _, rfl, ⟨HL.out, by omega, .inr ⟨w.heap.size, 0, rfl, fun i hi => by rw [Nat.zero_add]; exact (HDONE.out i hi).it⟩⟩, HB.out⟩
end Go.Proofs.YtppgdbejbhhjlaaGreatDoor
