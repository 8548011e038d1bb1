/- impl.isTree, impl.TreeFault. -/
import Derived.Test.YtjkmgpomcnplnaaGreatDoorGS13
import Derived.Test.YtjkmgpomcnplnaaGreatDoorGS26
import Derived.Test.YtjkmgpomcnplnaaGreatDoorGS24
import Derived.Test.YtjkmgpomcnplnaaGreatDoorGS0
import Derived.Shelf.Strings.BuilderRune
import Derived.Test.YtjkmgpomcnplnaaGreatDoorGS2
namespace Go.Proofs.YtjkmgpomcnplnaaGreatDoor
open Go.ChangeShapes Go.WideShapes Go.ChangeAt Go.RowKit
set_option linter.unusedVariables false
set_option maxRecDepth 100000 in
set_option maxHeartbeats 6400000 in
theorem implIsTree_any (a : Option Addr) (n c : Nat) (l : List It) (w : World) (h1 : 1 ≤ n) (h40 : n ≤ 40) (hd : ∀ i, i < n → 0 ≤ (l.getD i dIt).depth ∧ (l.getD i dIt).depth ≤ 6) (h : ItsAt w a n c l) :
    Calls Tryz.prog 60 #[.slice a n c] w fun e w' => e = .returned (.bool (stands l)) ∧ ∃ n, w' = w.drewN n := by
  have HL := Lib.hid h.len
  have HD := Lib.hid hd
  obtain ⟨b, o, rfl, h4⟩ : ∃ b o, a = some ⟨b, o, none⟩ ∧ ∀ i, i < n → ItAt w b (o + i * 5) (l.getD i dIt) := by
    rcases h.row with e | h
    · omega
    · exact h
  have H4 := Lib.hid h4
  have HNO : Hid (¬ ((l.getD 0 dIt).depth = 0 ∧ (l.getD 0 dIt).name.toList.isEmpty = false) → stands l = false) := Lib.hid stands_first
  have HNO2 : Hid (∀ i, 1 ≤ i → i < n → mayStand (l.getD (i - 1) dIt) (l.getD i dIt) = false → stands l = false) := Lib.hid fun i h1 h2 h3 => stands_no h1 (by have := h.len; omega) h3
  have HYES : Hid ((l.getD 0 dIt).depth = 0 → (l.getD 0 dIt).name.toList.isEmpty = false → (∀ i, 1 ≤ i → i < n → mayStand (l.getD (i - 1) dIt) (l.getD i dIt) = true) → stands l = true) := Lib.hid fun g0 g1 g2 => stands_yes g0 g1 fun i h1 h2 => g2 i h1 (by have := h.len; omega)
  clear h h4 hd
  generalize stands l = st at HNO HNO2 HYES
  have hi := H4.out 0 (by omega)
  have d0 : w.cell? ⟨b, o, none⟩ = some (.int .i64 (l.getD 0 dIt).depth) := by have := hi.c0; simpa using this
  have d3 : w.cell? ⟨b, o + 3, none⟩ = some (.string (l.getD 0 dIt).name) := by have := hi.c3; simpa using this
  clear hi
  have k0 : (0 : Int) < (n : Int) := by omega
  generalize l.getD 0 dIt = x at d0 d3 HNO HYES
  obtain ⟨xd, xt, xs, xn, xa⟩ := x
  dsimp only at d0 d3 HNO HYES
  by_cases hx0 : xd = 0
  · subst hx0
    cases hx3 : xn.toList.isEmpty
    · have HY2 := Lib.hid (HYES.out rfl hx3)
      clear HNO HYES
      go_enter Tryz.func60, Tryz.ntmps60
      go_wp2
      clear d0 d3 hx3
      go_loopw [3] (fun i wr => ∃ k : Nat, 1 ≤ k ∧ k ≤ n ∧ i = .int .i64 k ∧ (∀ j, 1 ≤ j → j < k → mayStand (l.getD (j - 1) dIt) (l.getD j dIt) = true) ∧ ∃ nd, wr = w.drewN nd) (fun i _ => n - (intOf i).toNat)
      case atStart => exact ⟨1, Nat.le_refl _, by omega, rfl, fun j h1 h2 => by omega, 0, rfl⟩
      case round =>
        obtain ⟨k, hk1, hk, rfl, hz, hw⟩ := hrel
        have HW := Lib.hid hw
        have HZ := Lib.hid hz
        clear hz hw
        by_cases hlt : k < n
        · have hbw : Below w.heap.size w wr := by obtain ⟨nd, rfl⟩ := HW.out; exact below_drewN (Below.refl _ _) nd
          have hi := (H4.out k hlt).below hbw
          have hj := (H4.out (k - 1) (by omega)).below hbw
          have d0 := hi.c0
          have d3 := hi.c3
          have e0 := hj.c0
          have e3 := hj.c3
          have hdx := HD.out k hlt
          have hdp := HD.out (k - 1) (by omega)
          have KF := Lib.hid (fun (m : Nat) => mayFollow_any b (o + (k - 1) * 5) b (o + k * 5) (l.getD (k - 1) dIt) (l.getD k dIt) (wr.drewN m) (hj.below (below_drewN (Below.refl _ _) m)) (hi.below (below_drewN (Below.refl _ _) m)) hdp)
          clear hi hj hbw
          have HN2 : Hid (mayStand (l.getD (k - 1) dIt) (l.getD k dIt) = false → st = false) := Lib.hid (HNO2.out k hk1 hlt)
          have HY3 : Hid (mayStand (l.getD (k - 1) dIt) (l.getD k dIt) = true → ∀ j, 1 ≤ j → j < k + 1 → mayStand (l.getD (j - 1) dIt) (l.getD j dIt) = true) := Lib.hid fun e j h1 h2 => by
            rcases Nat.lt_or_ge j k with h | h
            · exact HZ.out j h1 h
            · obtain rfl : j = k := by omega
              exact e
          have q5 : (0 : Int) ≤ (k : Int) - 1 := by omega
          have q6 : (1 : Int) ≤ (k : Int) := by omega
          have q7 : (k : Int) - 1 < (n : Int) := by omega
          have q8 : (k : Int) < (n : Int) := by omega
          generalize l.getD k dIt = x at d0 d3 hdx HN2 HY3 KF
          generalize l.getD (k - 1) dIt = p at e0 e3 hdp HN2 HY3 KF
          obtain ⟨xd, xt, xs, xn, xa⟩ := x
          obtain ⟨pd, pt, ps, pn, pa⟩ := p
          unfold mayStand at HN2 HY3
          dsimp only at d0 d3 e0 e3 hdx hdp HN2 HY3 KF
          obtain ⟨xe, hxe⟩ : ∃ xe, xn.toList.isEmpty = xe := ⟨_, rfl⟩
          obtain ⟨pe, hpe⟩ : ∃ pe, pn.toList.isEmpty = pe := ⟨_, rfl⟩
          rw [hxe, hpe] at HN2 HY3
          cases g0 : xd == 0
          · have K := Lib.hid (fun m => KF.out m)
            rw [hxe, hpe] at K
            rw [stand_follow g0] at HN2 HY3
            clear KF
            generalize followB xd pd xe pe = fb at K HN2 HY3
            cases fb
            · have HF := Lib.hid (HN2.out rfl)
              clear HN2 HY3
              go_wp2_with fail
              go_quiet ((go_at_call 88; exact Calls.quiet_of (K.out _)))
              go_wp2
              go_ret
              exact ⟨ret_bool HF.out.symm, drew_more HW.out _⟩
            · have HF := Lib.hid (HY3.out rfl)
              clear HN2 HY3
              go_wp2_with fail
              go_quiet ((go_at_call 88; exact Calls.quiet_of (K.out _)))
              go_wp2
              go_roundw
              case rel => exact ⟨k + 1, by omega, by omega, by go_num, HF.out, drew_more HW.out _⟩
              case measure => simp [intOf]; omega
          · have HF := Lib.hid (HN2.out (stand_zero g0))
            clear HN2 HY3 KF
            go_wp2_with fail
            go_quiet (fail)
            go_wp2
            go_ret
            exact ⟨ret_bool HF.out.symm, drew_more HW.out _⟩
        · have HF : st = true := HY2.out fun i h1 h2 => HZ.out i h1 (by omega)
          go_wp2
          go_ret
          exact ⟨ret_bool HF.symm, HW.out⟩
    · have HF := Lib.hid (HNO.out (fun e => by have := e.2; rw [hx3] at this; cases this))
      go_enter Tryz.func60, Tryz.ntmps60
      go_wp2
      go_ret
      exact ⟨ret_bool HF.out.symm, 0, rfl⟩
  · have HF := Lib.hid (HNO.out (fun e => hx0 e.1))
    have q1 : (xd != 0) = true := by simpa using hx0
    have q2 : (xd == 0) = false := by simpa using hx0
    clear hx0
    go_enter Tryz.func60, Tryz.ntmps60
    go_wp2
    go_ret
    exact ⟨ret_bool HF.out.symm, 0, rfl⟩
set_option maxRecDepth 100000 in
set_option maxHeartbeats 3200000 in
theorem implTreeFault_any (a : Option Addr) (n c : Nat) (l : List It) (w : World) (hT : Tabs w) (h : ItsAt w a n c l) :
    Calls Tryz.prog 27 #[.slice a n c] w fun e w' => e = .returned (.int .i64 (treeCode l)) ∧ Below w.heap.size w w' := by
  have hm := h.max
  have HL := Lib.hid h.len
  have H := Lib.hid h
  have HT := Lib.hid hT
  clear hT
  by_cases hn : n < 1 ∨ 40 < n
  · have HC := Lib.hid (treeCode_many (l := l) (by have := h.len; omega))
    clear h
    generalize treeCode l = cd at HC
    rcases hn with hn | hn
    · obtain rfl : n = 0 := by omega
      go_enter Tryz.func27, Tryz.ntmps27
      go_wp2
      go_ret
      exact ⟨ret_i HC.out.symm, Below.refl _ _⟩
    · go_enter Tryz.func27, Tryz.ntmps27
      go_wp2
      go_ret
      exact ⟨ret_i HC.out.symm, Below.refl _ _⟩
  · have h1 : 1 ≤ n := by omega
    have h40 : n ≤ 40 := by omega
    have HC1 : Hid (∀ k, k < n → (∀ j, j < k → itemCode (l.getD j dIt) = 0) → itemCode (l.getD k dIt) ≠ 0 → treeCode l = itemCode (l.getD k dIt)) := Lib.hid fun k hk h0 h1 => treeCode_at (by have := h.len; omega) (by have := h.len; omega) h0 h1
    have HC2 : Hid ((∀ j, j < n → itemCode (l.getD j dIt) = 0) → treeCode l = if stands l = true then 0 else 1) := Lib.hid fun h0 => treeCode_end (by have := h.len; omega) (fun j hj => h0 j (by have := h.len; omega))
    obtain ⟨b, o, rfl, h4⟩ : ∃ b o, a = some ⟨b, o, none⟩ ∧ ∀ i, i < n → ItAt w b (o + i * 5) (l.getD i dIt) := by
      rcases h.row with e | h
      · omega
      · exact h
    have H4 := Lib.hid h4
    clear h hn h4
    generalize treeCode l = cd at HC1 HC2
    go_enter Tryz.func27, Tryz.ntmps27
    go_wp2
    go_loopw [16] (fun i wr => ∃ k : Nat, k ≤ n ∧ i = .int .i64 k ∧ (∀ j, j < k → itemCode (l.getD j dIt) = 0) ∧ Below w.heap.size w wr) (fun i _ => n - (intOf i).toNat)
    case atStart => exact ⟨0, Nat.zero_le _, rfl, fun j hj => by omega, Below.refl _ _⟩
    case round =>
      obtain ⟨k, hk, rfl, hz, hb⟩ := hrel
      have HK := Lib.hid hz
      clear hz
      by_cases hlt : k < n
      · have hi := (H4.out k hlt).below hb
        have d0 := hi.c0
        have d1 := hi.c1
        have d2 := hi.c2
        have d3 := hi.c3
        obtain ⟨a4, n4, c4, d4, hat⟩ := hi.c4
        have k1 : (k : Int) < (n : Int) := by omega
        have K := Lib.hid (fun W (hb' : Below wr.heap.size wr W) => implItemFault_any (l.getD k dIt) a4 n4 c4 W (tabs_kept HT.out (below_then hb hb')) hi.wf hi.size (hat.below hb'))
        have HY : Hid (itemCode (l.getD k dIt) ≠ 0 → cd = itemCode (l.getD k dIt)) := Lib.hid (HC1.out k hlt HK.out)
        have HK2 : Hid (itemCode (l.getD k dIt) = 0 → ∀ j, j < k + 1 → itemCode (l.getD j dIt) = 0) := Lib.hid fun hx j hj => by
          rcases Nat.lt_or_ge j k with h | h
          · exact HK.out j h
          · obtain rfl : j = k := by omega
            exact hx
        have HB := Lib.hid hb
        have hltb := hi.lt
        clear hi hat hb
        generalize itemCode (l.getD k dIt) = ic at K HY HK2
        generalize l.getD k dIt = x at d0 d1 d2 d3 K
        obtain ⟨xd, xt, xs, xn, xa⟩ := x
        dsimp only at d0 d1 d2 d3 K
        by_cases h0 : ic = 0
        · subst h0
          have HK3 := Lib.hid (HK2.out rfl)
          clear HK2 HY
          go_wp2_with fail
          refine (K.out _ (below1 _ _)).mono ?_
          rintro e w2 ⟨rfl, hb2⟩
          go_wp2
          go_roundw
          case rel => exact ⟨k + 1, by omega, by go_num, HK3.out, below_then HB.out (below_then (below1 _ _) hb2)⟩
          case measure => simp [intOf]; omega
        · have HY2 := Lib.hid (HY.out h0)
          have q1 : (ic != 0) = true := by simpa using h0
          have q2 : (ic == 0) = false := by simpa using h0
          clear HK2 HY h0
          go_wp2_with fail
          refine (K.out _ (below1 _ _)).mono ?_
          rintro e w2 ⟨rfl, hb2⟩
          go_wp2
          go_ret
          exact ⟨ret_i HY2.out.symm, below_then HB.out (below_then (below1 _ _) hb2)⟩
      · obtain rfl : k = n := by omega
        have K := Lib.hid (implIsTree_any (some ⟨b, o, none⟩) k c l wr h1 h40 (fun i hi => item_depth (HK.out i hi)) (H.out.below hb))
        have HC3 := Lib.hid (HC2.out HK.out)
        generalize stands l = st at K HC3
        clear HC1 HC2
        cases st
        all_goals
          go_wp2_with fail
          refine K.out.mono ?_
          rintro e w2 ⟨rfl, nd, rfl⟩
          go_wp2
          go_ret
          exact ⟨ret_i HC3.out.symm, below_drewN hb nd⟩
def NodeAtRes (w : World) (bi oi : Nat) (l : List It) (k : Nat) (e : Ending) (w' : World) : Prop :=
  ∃ (B : Nat) (nb : Nat → Nat) (KA : Nat → Option Addr) (KN KC : Nat → Nat), e = .returned (.tuple #[ptrN (nb k), .int .i64 0]) ∧ w.heap.size ≤ B ∧ Nodes w' B bi oi l l.length nb KA KN KC (kidsUp l l.length) ∧ Below w.heap.size w w'
set_option maxRecDepth 100000 in
set_option maxHeartbeats 1600000 in
theorem nodeAt_any (bi oi n c k : Nat) (l : List It) (w : World) (hT : Tabs w) (h : ItsAt w (some ⟨bi, oi, none⟩) n c l) (hc : treeCode l = 0) (hk : k < n) :
    Calls Tryz.prog 105 #[.slice (some ⟨bi, oi, none⟩) n c, .int .i64 (k : Int)] w (NodeAtRes w bi oi l k) := by
  have hR := rises_of hc
  have hl := h.len
  have hn40 := hR.few
  have KT := Lib.hid (implTreeFault_any (some ⟨bi, oi, none⟩) n c l w hT h)
  rw [hc] at KT
  have KN : Hid (∀ W, Below w.heap.size w W → Calls Tryz.prog 75 #[.slice (some ⟨bi, oi, none⟩) n c] W (NodesRes W bi oi l)) := Lib.hid fun W hW => by
    rcases h.row with e | ⟨b, o, e, hi⟩
    · omega
    · cases e
      have := nodesOf_any bi oi c l W hR fun i hi2 => (hi i (by omega)).below hW
      rw [hl] at this
      exact this
  have HL := Lib.hid hl
  unfold NodeAtRes
  clear h hR hc hT hl
  have q0 : ¬ ((n : Int) ≤ (k : Int)) := by omega
  go_enter Tryz.func105, Tryz.ntmps105
  go_wp2_with fail
  refine KT.out.mono ?_
  rintro e w1 ⟨rfl, hb1⟩
  have HB1 := Lib.hid hb1
  clear hb1 KT
  go_wp2_with fail
  refine (KN.out _ HB1.out).mono ?_
  rintro e w2 ⟨rb, B, nb, KA, KN, KC, rfl, hrb, hB, hN, hat, hb2⟩
  have hn2 := Lib.hid hN
  have hs := HB1.out.size
  have HB2 := Lib.hid (HB1.out.trans (hb2.mono hs))
  have d0 := hat k (by have := HL.out; omega)
  have hl := HL.out
  unfold ptrN at d0
  clear hN hat hb2
  rw [hl]
  go_wp2
  go_ret2
  exact ⟨B, nb, KA, KN, KC, rfl, by omega, hn2.out, HB2.out⟩
set_option linter.unusedSimpArgs false
theorem isElem_yes (a : Addr) (w : World) : (Instr.typeAssert (.iface 88 (.agg #[.pointer (some a)])) 59 88 true).run Tryz.prog w = .ok (.tuple #[.agg #[.pointer (some a)], .bool true]) w := by kernel_rfl
theorem good_item {l : List It} (h : treeCode l = 0) {i : Nat} (hi : i < l.length) : itemCode (l.getD i dIt) = 0 := by
  unfold treeCode at h
  split at h
  · omega
  · cases hf : l.find? (fun x => itemCode x != 0) with
    | some y =>
      rw [hf] at h
      have := List.find?_some hf
      rw [bne_iff_ne] at this
      exact absurd h this
    | none =>
      rw [List.find?_eq_none] at hf
      have hm := hf (l.getD i dIt) (by rw [List.getD_eq_getElem?_getD, List.getElem?_eq_getElem hi]; exact List.getElem_mem hi)
      simpa using hm
theorem text_attrs {x : It} (h : itemCode x = 0) (he : x.name.toList.isEmpty = true) : x.attrs = [] := by
  unfold itemCode at h
  split at h
  · omega
  · try rw [if_pos he] at h
    unfold textCode at h
    split at h
    · omega
    · rename_i h1
      rw [← List.length_eq_zero_iff]
      omega
theorem two_set {w1 : World} {b : Nat} {u0 u1 : Value} (v0 v1 : Value) (r0 : w1.cell? ⟨b, 0, none⟩ = some u0) (r1 : w1.cell? ⟨b, 1, none⟩ = some u1) :
    (w1.setCell ⟨b, 0, none⟩ v0).cell? ⟨b, 0, none⟩ = some v0 ∧ ((w1.setCell ⟨b, 0, none⟩ v0).setCell ⟨b, 1, none⟩ v1).cell? ⟨b, 1, none⟩ = some v1 :=
  ⟨World.cell?_setCell_same _ _ _ r0, World.cell?_setCell_same _ _ _ ((World.cell?_setCell_other _ _ _ _ (fun q => by have := congrArg Addr.off q; simp at this)).trans r1)⟩
theorem Nodes.kidAt {w : World} {B bi oi : Nat} {l : List It} {m : Nat} {nb : Nat → Nat} {KA : Nat → Option Addr} {KN KC : Nat → Nat} {K : Nat → List Nat} (h : Nodes w B bi oi l m nb KA KN KC K) {k : Nat} (hk : k < m) :
    KN k = (K k).length ∧ (KN k = 0 ∨ ∃ g, KA k = some ⟨g, 0, none⟩ ∧ g < w.heap.size ∧ ∀ j, j < KN k → w.cell? ⟨g, j, none⟩ = some (ptrN (nb ((K k).getD j 0))) ∧ (K k).getD j 0 < m) := by
  have hr := h.row k hk
  have hl : KN k = (K k).length := by have := hr.1; rw [rowN_len] at this; omega
  refine ⟨hl, ?_⟩
  rcases hr.2 with ⟨hv, hn⟩ | ⟨g, cap, cur, hv, hg, hh, hnc, hm, hs, ht⟩
  · exact .inl hn
  · have hlt := (hr.lt g (by rw [hv]; rfl)).2
    injection hv with h1 h2 h3
    refine .inr ⟨g, h1, hlt, fun j hj => ?_⟩
    have hj2 : j < (K k).length := by omega
    have hat : (K k).getD j 0 ∈ K k := by rw [List.getD_eq_getElem?_getD, List.getElem?_eq_getElem hj2]; exact List.getElem_mem hj2
    refine ⟨?_, h.kid k hk _ hat⟩
    rw [h1, h2, h3] at hr
    have hc := hr.cellAt j (by omega)
    rw [hc]
    unfold rowN
    rw [List.getElem?_map, List.getElem?_eq_getElem hj2, List.getD_eq_getElem?_getD, List.getElem?_eq_getElem hj2]
    rfl
def IntsRes (w : World) (L : List Int) (e : Ending) (w' : World) : Prop :=
  ∃ a n c, e = .returned (.agg #[.int .i64 0, .slice a n c]) ∧ w'.ownsRow w.heap.size 2 1 (.slice a n c) n (L.map (Value.int .i64)) ∧ Below w.heap.size w w'
def kidV (ks : List Nat) (j : Nat) : List Value := (ks.take j).map fun k => Value.int .i64 ((k : Nat) : Int)
theorem i64Cells (W : World) (x : Int) (j : Nat) (u : Value) (hj : [Value.int .i64 x][j]? = some u) : (W.alloc (.cells #[.int .i64 x] 2)).cell? (Addr.add ⟨W.heap.size, 0, none⟩ j) = some u := by
  match j, hj with
  | 0, hj => simp at hj; subst hj; simp [Addr.add]
end Go.Proofs.YtjkmgpomcnplnaaGreatDoor
namespace Go.Proofs.YtjkmgpomcnplnaaGreatDoor
open Go.ChangeShapes Go.WideShapes Go.ChangeAt Go.RowKit Go.Shelf
set_option linter.unusedVariables false
theorem sizeBuilder : (Tryz.prog.info? 136).map (·.size) = some 2 := by kernel_rfl
theorem liesBuilder : liesAt Tryz.prog Tryz.prog.depth 136 (2 / Tryz.prog.cellsOf 136) 0 136 1 = true := by kernel_rfl
theorem neBuilder : (136 : Nat) ≠ 5 := by decide
abbrev IsB (w : World) (B b : Nat) (bs : List Value) : Prop := Lib.IsBuilderF 136 5 B b bs w
abbrev AtB (w : World) (B b : Nat) (bs : List Value) : Prop := Lib.BuilderAtF 136 5 B b (.pointer (some ⟨b, 0, none⟩)) bs w
abbrev KeptB (b : Nat) (w w' : World) : Prop := Lib.OthersKept 5 (some b) w w'
set_option maxRecDepth 100000 in
theorem copyCheck_used (b : Nat) (w : World) (h0 : w.cell? ⟨b, 0, none⟩ = some (.pointer (some ⟨b, 0, none⟩))) :
    Calls Tryz.prog 126 #[.pointer (some ⟨b, 0, none⟩)] w fun e w' => e = .returned (.tuple #[]) ∧ w' = w := by
  obtain ⟨j, hj, _⟩ := Option.map_eq_some_iff.1 sizeBuilder
  have hn := Lib.run_neq_ptr_same (P := Tryz.prog) w ⟨b, 0, none⟩ Tryz.underlying134 hj
  go_enter Tryz.func126, Tryz.ntmps126
  go_wp2
  go_end0
  exact ⟨rfl, rfl⟩
set_option maxRecDepth 100000 in
theorem copyCheck_fresh (b : Nat) (w : World) (h0 : w.cell? ⟨b, 0, none⟩ = some (.pointer none)) (hsh : w.shape? b = some (136, 2)) (hfz : w.frozen? ⟨b, 0, none⟩ = false) :
    Calls Tryz.prog 126 #[.pointer (some ⟨b, 0, none⟩)] w fun e w' => e = .returned (.tuple #[]) ∧ w' = w.setCell ⟨b, 0, none⟩ (.pointer (some ⟨b, 0, none⟩)) := by
  obtain ⟨j, hj, hjs⟩ := Option.map_eq_some_iff.1 sizeBuilder
  have h1 := Lib.run_to_unsafe (P := Tryz.prog) w ⟨b, 0, none⟩ Tryz.underlying134 Tryz.underlying172 hj (by rw [hjs]; decide) hsh (Nat.zero_lt_succ 1)
  have h2 := @run_callFunc_extern Tryz.prog 136 _ Extern.AbiNoEscape.same Tryz.func136 (by kernel_rfl) (by kernel_rfl) (by kernel_rfl) (by kernel_rfl)
  have h3 := Lib.run_noEscape (P := Tryz.prog) (w := w)
  have h4 := Lib.run_from_unsafe (P := Tryz.prog) w ⟨b, 0, none⟩ Tryz.underlying172 Tryz.underlying134 hj hsh liesBuilder
  go_enter Tryz.func126, Tryz.ntmps126
  go_wp2
  go_end0
  exact ⟨rfl, rfl⟩
theorem copyCheck_any (B b : Nat) (bs : List Value) (w : World) (h : IsB w B b bs) :
    Calls Tryz.prog 126 #[.pointer (some ⟨b, 0, none⟩)] w fun e w' => e = .returned (.tuple #[]) ∧ AtB w' B b bs ∧ Below B w w' ∧ KeptB b w w' := by
  rcases h with h | h
  · refine (copyCheck_fresh b w h.cell0 h.shape h.frozen0).mono ?_
    rintro e w' ⟨rfl, rfl⟩
    exact ⟨rfl, h.used _, (Below.refl B w).setCell (p := ⟨b, 0, none⟩) h.1 _, (Lib.OthersKept.refl _ _ w).setCell ⟨b, 0, none⟩ rfl _⟩
  · refine (copyCheck_used b w h.cell0).mono ?_
    rintro e w' ⟨rfl, rfl⟩
    exact ⟨rfl, h, Below.refl B _, Lib.OthersKept.refl _ _ _⟩
theorem byteInfoB : (Tryz.prog.info? 5).map (fun i => (i.zero, i.size, i.bytes)) = some (some (.int .u8 0), 1, 1) := by kernel_rfl
def WroteS (w : World) (B b : Nat) (bs : List Value) (s : ByteArray) (e : Ending) (w' : World) : Prop :=
  e = .returned (.tuple #[.int .i64 s.size, .nilIface]) ∧ AtB w' B b (bs ++ Lib.strCells s) ∧ Below B w w' ∧ KeptB b w w'
set_option maxHeartbeats 1600000 in
set_option maxRecDepth 100000 in
theorem writeString_any (B b : Nat) (bs : List Value) (s : ByteArray) (w : World) (h : IsB w B b bs) (hlen : bs.length ≤ 1000000000) (hs : s.size ≤ 100000000) (hBw : B ≤ w.heap.size) :
    Calls Tryz.prog 106 #[.pointer (some ⟨b, 0, none⟩), .string s] w (WroteS w B b bs s) := by
  obtain ⟨i0, hi, hz0, hz1, hz2⟩ := info_parts byteInfoB
  have HI := Lib.hid h
  clear h
  go_enter Tryz.func106, Tryz.ntmps106
  go_wp2_with fail
  refine (copyCheck_any B b bs _ HI.out).mono ?_
  rintro e w1 ⟨rfl, h1, hb1, hk1⟩
  obtain ⟨hB, v, hbk, hown, hne⟩ := h1
  obtain ⟨ao, cap, rfl⟩ : ∃ ao cap, v = .slice ao bs.length cap := by
    rcases hown.2 with ⟨hv, h0⟩ | ⟨g, cap, cur, fz, hv, _⟩
    · exact ⟨none, 0, by rw [hv, h0]⟩
    · exact ⟨_, _, hv⟩
  have c1 : w1.cell? ⟨b, 1, none⟩ = some (.slice ao bs.length cap) := by rw [Lib.cell_of_heap hbk]; rfl
  have HOWN := Lib.hid hown
  have HNE := Lib.hid hne
  have HBK := Lib.hid hbk
  have HK1 := Lib.hid hk1
  have HB1 := Lib.hid hb1
  clear hown hne hbk hk1 hb1
  go_wp2_with (at_builtin; refine Lib.wpList_append_own_stringF _ rfl _ _ 22 9 rfl B 5 i0 Tryz.underlying22 Tryz.underlying9 hi hz0 hz1 hz2 _ bs.length bs rfl HOWN.out s rfl (by unfold maxLen; omega) (by omega) (by have := HB1.out.size; omega) ?_)
  intro v' w2 hown' hgrow _
  have hlt : b < w1.heap.size := by
    rcases Nat.lt_or_ge b w1.heap.size with h' | h'
    · exact h'
    · have := HBK.out
      simp [Array.getElem?_eq_none h'] at this
  have hb2 : w2.heap[b]? = some (.cells #[.pointer (some ⟨b, 0, none⟩), .slice ao bs.length cap] 136 (0, 0)) := by
    rw [hgrow.block b hlt (fun e => HNE.out e.symm)]
    exact HBK.out
  have d1 : w2.cell? ⟨b, 1, none⟩ = some (.slice ao bs.length cap) := by rw [Lib.cell_of_heap hb2]; rfl
  have f1 : w2.frozen? ⟨b, 1, none⟩ = false := Lib.frozen_of_heap hb2 1
  obtain ⟨a', cap', rfl⟩ : ∃ a' cap', v' = .slice a' (bs.length + s.size) cap' := by
    rcases hown'.2 with ⟨hv, h0⟩ | ⟨g, cap', cur, fz, hv, _⟩
    · exact ⟨none, 0, by rw [hv, h0]⟩
    · exact ⟨_, _, hv⟩
  have HO2 := Lib.hid hown'
  have HG := Lib.hid hgrow
  have HB2 := Lib.hid hb2
  clear hown' hgrow hb2 c1
  go_wp2
  go_ret2
  refine ⟨rfl, ?_, ?_, (HK1.out.grown HG.out (Lib.ownsRowF_kind HOWN.out)).setCell ⟨b, 1, none⟩ rfl _⟩
  · have := HO2.out
    exact Lib.BuilderAtF.put hB HB2.out (bs' := bs ++ Lib.strCells s) (by rw [List.length_append, Lib.strCells_length]; exact this) neBuilder
  · exact (HB1.out.grown HG.out (by have := HB1.out.size; omega) (fun k hk => (HOWN.out.lt k hk).1)).setCell (p := ⟨b, 1, none⟩) hB _
end Go.Proofs.YtjkmgpomcnplnaaGreatDoor
