/- spec.TreeFault. -/
import Derived.Test.YticpebpicdboaaaGreatDoorGQ19
import Derived.Test.YticpebpicdboaaaGreatDoorGQ30
import Derived.Test.YticpebpicdboaaaGreatDoorGQ26
import Derived.Test.YticpebpicdboaaaGreatDoorGQ27
import Derived.Test.YticpebpicdboaaaGreatDoorGQ28
import Derived.Test.YticpebpicdboaaaGreatDoorGQ29
import Derived.Test.YticpebpicdboaaaGreatDoorGQ1
import Derived.Sort.Walk0
import Derived.Test.YticpebpicdboaaaGreatDoorGQ21
import Derived.Test.YticpebpicdboaaaGreatDoorGQ5
import Derived.Maps.OwnSet
import Derived.StringKeys
namespace Go.Proofs.YticpebpicdboaaaGreatDoor
open Go.ChangeShapes Go.WideShapes Go.ChangeAt Go.RowKit
set_option linter.unusedVariables false

set_option maxRecDepth 100000 in
set_option maxHeartbeats 3200000 in
theorem specTreeFault_any (a : Option Addr) (n c : Nat) (l : List It) (w : World) (hs : SmallIts l) (h : ItsAt w a n c l) :
    Calls Tryz.prog 81 #[.slice a n c] w fun e w' => e = .returned (.int .i64 (treeCode l)) ∧ Below w.heap.size w w' := by
  have hm := h.max
  have HL := Lib.hid h.len
  have H := Lib.hid h
  have HS := Lib.hid hs.2
  clear hs
  by_cases hn : n < 1 ∨ 40 < n
  · have HC := Lib.hid (treeCode_many (l := l) (by have := h.len; omega))
    clear h
    generalize treeCode l = cd at HC
    rcases hn with hn | hn
    · obtain rfl : n = 0 := by omega
      go_enter Tryz.func81, Tryz.ntmps81
      go_wp2
      go_ret
      exact ⟨ret_i HC.out.symm, Below.refl _ _⟩
    · go_enter Tryz.func81, Tryz.ntmps81
      go_wp2
      go_ret
      exact ⟨ret_i HC.out.symm, Below.refl _ _⟩
  · have h1 : 1 ≤ n := by omega
    have h40 : n ≤ 40 := by omega
    have HC1 : Hid (∀ k, k < n → (∀ j, j < k → itemCode (l.getD j dIt) = 0) → itemCode (l.getD k dIt) ≠ 0 → treeCode l = itemCode (l.getD k dIt)) := Lib.hid fun k hk h0 h1 => treeCode_at (by have := h.len; omega) (by have := h.len; omega) h0 h1
    have HC2 : Hid ((∀ j, j < n → itemCode (l.getD j dIt) = 0) → treeCode l = if stands l = true then 0 else 1) := Lib.hid fun h0 => treeCode_end (by have := h.len; omega) (fun j hj => h0 j (by have := h.len; omega))
    obtain ⟨b, o, rfl, h4⟩ : ∃ b o, a = some ⟨b, o, none⟩ ∧ ∀ i, i < n → ItAt w b (o + i * 5) (l.getD i dIt) := by
      rcases h.row with e | h
      · omega
      · exact h
    have H4 := Lib.hid h4
    clear h hn h4
    generalize treeCode l = cd at HC1 HC2
    go_enter Tryz.func81, Tryz.ntmps81
    go_wp2
    go_loopw [15] (fun i wr => ∃ k : Nat, k ≤ n ∧ i = .int .i64 k ∧ (∀ j, j < k → itemCode (l.getD j dIt) = 0) ∧ Below w.heap.size w wr) (fun i _ => n - (intOf i).toNat)
    case atStart => exact ⟨0, Nat.zero_le _, rfl, fun j hj => by omega, Below.refl _ _⟩
    case round =>
      obtain ⟨k, hk, rfl, hz, hb⟩ := hrel
      have HK := Lib.hid hz
      clear hz
      by_cases hlt : k < n
      · have hi := (H4.out k hlt).below hb
        have d0 := hi.c0
        have d1 := hi.c1
        have d2 := hi.c2
        have d3 := hi.c3
        obtain ⟨a4, n4, c4, d4, hat⟩ := hi.c4
        have k1 : (k : Int) < (n : Int) := by omega
        have K := Lib.hid (fun W (hb' : Below wr.heap.size wr W) => specItemFault_any (l.getD k dIt) a4 n4 c4 W (HS.out k (by have := HL.out; omega)) (hat.below hb'))
        have HY : Hid (itemCode (l.getD k dIt) ≠ 0 → cd = itemCode (l.getD k dIt)) := Lib.hid (HC1.out k hlt HK.out)
        have HK2 : Hid (itemCode (l.getD k dIt) = 0 → ∀ j, j < k + 1 → itemCode (l.getD j dIt) = 0) := Lib.hid fun hx j hj => by
          rcases Nat.lt_or_ge j k with h | h
          · exact HK.out j h
          · obtain rfl : j = k := by omega
            exact hx
        have HB := Lib.hid hb
        clear hi hat hb
        generalize itemCode (l.getD k dIt) = ic at K HY HK2
        generalize l.getD k dIt = x at d0 d1 d2 d3 K
        obtain ⟨xd, xt, xs, xn, xa⟩ := x
        dsimp only at d0 d1 d2 d3 K
        by_cases h0 : ic = 0
        · subst h0
          have HK3 := Lib.hid (HK2.out rfl)
          clear HK2 HY
          go_wp2_with fail
          refine (K.out _ (Below.refl _ _)).mono ?_
          rintro e w2 ⟨rfl, hb2⟩
          go_wp2
          go_roundw
          case rel => exact ⟨k + 1, by omega, by go_num, HK3.out, below_then HB.out hb2⟩
          case measure => simp [intOf]; omega
        · have HY2 := Lib.hid (HY.out h0)
          have q1 : (ic != 0) = true := by simpa using h0
          have q2 : (ic == 0) = false := by simpa using h0
          clear HK2 HY h0
          go_wp2_with fail
          refine (K.out _ (Below.refl _ _)).mono ?_
          rintro e w2 ⟨rfl, hb2⟩
          go_wp2
          go_ret
          exact ⟨ret_i HY2.out.symm, below_then HB.out hb2⟩
      · obtain rfl : k = n := by omega
        have K := Lib.hid (specShape_any (some ⟨b, o, none⟩) k c l wr h1 h40 (fun i hi => item_depth (HK.out i hi)) (H.out.below hb))
        have HC3 := Lib.hid (HC2.out HK.out)
        generalize stands l = st at K HC3
        clear HC1 HC2
        cases st
        all_goals
          go_wp2_with fail
          refine K.out.mono ?_
          rintro e w2 ⟨rfl, nd, rfl⟩
          go_wp2
          go_ret
          exact ⟨ret_i HC3.out.symm, below_drewN hb nd⟩
end Go.Proofs.YticpebpicdboaaaGreatDoor

/- spec.PresenceOf. -/
namespace Go.Proofs.YticpebpicdboaaaGreatDoor
open Go.ChangeShapes Go.WideShapes Go.ChangeAt Go.RowKit
set_option linter.unusedVariables false

theorem below8 {B b : Nat} {w W : World} (h : Below B w W) (hb : B ≤ b) (x0 x1 x2 x3 x4 x5 x6 x7 : Value) :
    Below B w ((((((((W.setCell ⟨b, 0, none⟩ x0).setCell ⟨b, 1, none⟩ x1).setCell ⟨b, 2, none⟩ x2).setCell ⟨b, 3, none⟩ x3).setCell ⟨b, 4, none⟩ x4).setCell ⟨b, 5, none⟩ x5).setCell ⟨b, 6, none⟩ x6).setCell ⟨b, 7, none⟩ x7) :=
  (((((((h.setCell (by exact hb) _).setCell (by exact hb) _).setCell (by exact hb) _).setCell (by exact hb) _).setCell (by exact hb) _).setCell (by exact hb) _).setCell (by exact hb) _).setCell (by exact hb) _
theorem own8 {W : World} {b lo hi : Nat} {a : Option Addr} {n c : Nat} {l : List It} (h : OwnIts W lo hi a n c l) (hb : b < lo) (x0 x1 x2 x3 x4 x5 x6 x7 : Value) :
    OwnIts ((((((((W.setCell ⟨b, 0, none⟩ x0).setCell ⟨b, 1, none⟩ x1).setCell ⟨b, 2, none⟩ x2).setCell ⟨b, 3, none⟩ x3).setCell ⟨b, 4, none⟩ x4).setCell ⟨b, 5, none⟩ x5).setCell ⟨b, 6, none⟩ x6).setCell ⟨b, 7, none⟩ x7) lo hi a n c l := by
  have st : ∀ (W : World) (i : Nat) (v : Value), OwnIts W lo hi a n c l → OwnIts (W.setCell ⟨b, i, none⟩ v) lo hi a n c l := fun W i v h =>
    h.only (Only.set (P := fun i => i = b) W ⟨b, i, none⟩ v rfl) fun i hlo hhi he => by omega
  exact st _ _ _ (st _ _ _ (st _ _ _ (st _ _ _ (st _ _ _ (st _ _ _ (st _ _ _ (st _ _ _ h)))))))
/-- a code alone is handed back -/
theorem prr_code (w w' : World) (cd : Int) (hb : Below w.heap.size w w') : PrrOwn w cd dPr (.returned (.agg #[.int .i64 cd, .int .i64 0, .string ⟨#[]⟩, .string ⟨#[]⟩, .int .i64 0, .string ⟨#[]⟩, .int .i64 0, .slice none 0 0])) w' :=
  ⟨none, 0, 0, rfl, OwnIts.nil _ _ _, hb⟩
set_option maxRecDepth 100000 in
set_option maxHeartbeats 3200000 in
theorem specPresenceOf_any (lo hi : Nat) (a : Option Addr) (n c : Nat) (l : List It) (w : World) (hs : SmallIts l) (h : OwnIts w lo hi a n c l) :
    Calls Tryz.prog 21 #[.slice a n c] w (PrrOwn w (readCode l) (readVal l)) := by
  have KT := Lib.hid (fun W (hb : Below w.heap.size w W) => specTreeFault_any a n c l W hs (h.below hb).its)
  have KP := Lib.hid (fun W (hb : Below w.heap.size w W) (hc : treeCode l = 0) => l7Presence_any lo hi a n c l W hc (h.below hb))
  have KF := Lib.hid (fun p a n c W hs h => specPresenceFault_any p a n c W hs h)
  have HB0 := Lib.hid (fun o => below1 w o)
  unfold PresRes at KP
  by_cases hc : treeCode l = 0
  · have HC := Lib.hid hc
    cases hr : readP l with
    | none =>
      obtain ⟨e1, e2⟩ := read_none hc hr
      rw [e1, e2]
      rw [hc] at KT
      rw [hr] at KP
      clear e1 e2 hr h hs
      go_enter Tryz.func21, Tryz.ntmps21
      go_wp2_with fail
      refine (KT.out _ (HB0.out _)).mono ?_
      rintro e w1 ⟨rfl, hb1⟩
      have B1 := Lib.hid hb1
      clear hb1
      go_wp2_with fail
      refine (KP.out _ (below_then (HB0.out _) B1.out) HC.out).mono ?_
      rintro e w2 ⟨bb, q, a2, n2, c2, rfl, hg, hb2, ht, hf⟩
      have hbb : bb = false := by
        cases bb
        · rfl
        · cases ht rfl
      subst hbb
      obtain ⟨qk, qf, qt, qs, qu, qp, qm⟩ := q
      have hb3 := below_then (below_then B1.out hb2) (below1 w2 (.cells #[.int .i64 qk, .string qf, .string qt, .int .i64 qs, .string qu, .int .i64 qp, .slice a2 n2 c2] 26))
      obtain ⟨hc1, hf1⟩ := bcell hb3
      have HB3 := Lib.hid hb3
      clear ht hf hg hb2 hb3
      go_wp2
      exact bodyPost_ret (v := .agg #[.int .i64 1, .int .i64 0, .string ⟨#[]⟩, .string ⟨#[]⟩, .int .i64 0, .string ⟨#[]⟩, .int .i64 0, .slice none 0 0]) (by simp [results, Tryz.results21, go_sem, hc1]) rfl (prr_code _ _ _ (below8 (below_then (HB0.out _) HB3.out) (Nat.le_refl _) _ _ _ _ _ _ _ _))
    | some p =>
      obtain ⟨e1, e2⟩ := read_some hc hr
      obtain ⟨hsp, hfew, hbit⟩ := read_small hc hs hr
      rw [e1, e2]
      rw [hc] at KT
      rw [hr] at KP
      have HSP := Lib.hid hsp
      have HBI := Lib.hid hbit
      clear e1 e2 hr h hs hsp hbit
      obtain ⟨pk, pf, pt, ps, pu, pp, pm⟩ := p
      have KF := Lib.hid (fun a n c W h => KF.out ⟨pk, pf, pt, ps, pu, pp, pm⟩ a n c W HSP.out h)
      generalize presCode ⟨pk, pf, pt, ps, pu, pp, pm⟩ = cd at KF ⊢
      dsimp only at KF hfew HBI
      obtain ⟨rv, hrv⟩ : ∃ rv, (if cd ≠ 0 then dPr else (⟨pk, pf, pt, ps, pu, pp, pm⟩ : Pr)) = rv := ⟨_, rfl⟩
      rw [hrv]
      have HRV := Lib.hid hrv
      clear hrv
      go_enter Tryz.func21, Tryz.ntmps21
      go_wp2_with fail
      refine (KT.out _ (HB0.out _)).mono ?_
      rintro e w1 ⟨rfl, hb1⟩
      have B1 := Lib.hid hb1
      have hz1 := hb1.size
      simp at hz1
      clear hb1
      go_wp2_with fail
      refine (KP.out _ (below_then (HB0.out _) B1.out) HC.out).mono ?_
      rintro e w2 ⟨bb, q, a2, n2, c2, rfl, ⟨A2, N2, C2, hg, _, _⟩, hb2, ht, hf⟩
      have hbb : bb = true := by
        cases bb
        · cases hf rfl
        · rfl
      subst hbb
      have hq := ht rfl
      simp only [Option.some.injEq] at hq
      subst hq
      have hlen := hg.len
      dsimp only at hlen hg
      have own2 := hg.own (by omega) (fun i hi => by
        have h1 := HBI.out i (by omega)
        have h2 := h1.2.1
        exact ⟨⟨by omega, by omega⟩, by omega, by omega, by omega⟩)
      have hz2 := hb2.size
      have hb3 := below_then (below_then B1.out hb2) (below1 w2 (.cells #[.int .i64 pk, .string pf, .string pt, .int .i64 ps, .string pu, .int .i64 pp, .slice a2 n2 c2] 26))
      have OW := Lib.hid (own2.below (below1 w2 (.cells #[.int .i64 pk, .string pf, .string pt, .int .i64 ps, .string pu, .int .i64 pp, .slice a2 n2 c2] 26)))
      have HB3 := Lib.hid hb3
      clear ht hf hg hb2 hb3 own2
      go_wp2_with fail
      refine (KF.out _ _ _ _ OW.out.its).mono ?_
      rintro e w3 ⟨rfl, hb4⟩
      have hb5 := below_then HB3.out hb4
      obtain ⟨hc1, hf1⟩ := bcell hb5
      have hp0 : ∀ o, w3.cell? ⟨w2.heap.size, o, none⟩ = (w2.alloc (.cells #[.int .i64 pk, .string pf, .string pt, .int .i64 ps, .string pu, .int .i64 pp, .slice a2 n2 c2] 26)).cell? ⟨w2.heap.size, o, none⟩ := fun o => (bcell hb4).1 _ _ (by simp)
      have hz4 := hb4.size
      simp at hz4
      have HB5 := Lib.hid hb5
      have OW3 := Lib.hid (OW.out.below hb4)
      clear hb4 hb5
      by_cases h0 : cd = 0
      · subst h0
        go_wp2
        refine bodyPost_ret (v := .agg #[.int .i64 0, .int .i64 pk, .string pf, .string pt, .int .i64 ps, .string pu, .int .i64 pp, .slice a2 n2 c2]) (by simp [results, Tryz.results21, go_sem, hc1]) rfl ?_
        have hrv := HRV.out
        rw [if_neg (by simp)] at hrv
        subst hrv
        exact ⟨_, _, _, rfl, (own8 OW3.out (by omega) _ _ _ _ _ _ _ _).mono (by omega) (by simp; omega), below8 (below_then (HB0.out _) HB5.out) (Nat.le_refl _) _ _ _ _ _ _ _ _⟩
      · have h0b : (cd != 0) = true := by rw [bne_iff_ne]; exact h0
        go_wp2
        refine bodyPost_ret (v := .agg #[.int .i64 cd, .int .i64 0, .string ⟨#[]⟩, .string ⟨#[]⟩, .int .i64 0, .string ⟨#[]⟩, .int .i64 0, .slice none 0 0]) (by simp [results, Tryz.results21, go_sem, hc1]) rfl ?_
        have hrv := HRV.out
        rw [if_pos h0] at hrv
        subst hrv
        exact prr_code _ _ _ (below8 (below_then (HB0.out _) HB5.out) (Nat.le_refl _) _ _ _ _ _ _ _ _)
  · obtain ⟨e1, e2⟩ := read_bad hc
    rw [e1, e2]
    generalize treeCode l = cd at hc KT ⊢
    have h0b : (cd != 0) = true := by rw [bne_iff_ne]; exact hc
    clear e1 e2 h hs KP
    go_enter Tryz.func21, Tryz.ntmps21
    go_wp2_with fail
    refine (KT.out _ (HB0.out _)).mono ?_
    rintro e w1 ⟨rfl, hb1⟩
    obtain ⟨hc1, hf1⟩ := bcell hb1
    have HB1 := Lib.hid hb1
    clear hb1
    go_wp2
    exact bodyPost_ret (v := .agg #[.int .i64 cd, .int .i64 0, .string ⟨#[]⟩, .string ⟨#[]⟩, .int .i64 0, .string ⟨#[]⟩, .int .i64 0, .slice none 0 0]) (by simp [results, Tryz.results21, go_sem, hc1]) rfl (prr_code _ _ _ (below8 (below_then (HB0.out _) HB1.out) (Nat.le_refl _) _ _ _ _ _ _ _ _))
end Go.Proofs.YticpebpicdboaaaGreatDoor

/- Plain words on texts in their order, and what a heap of them says. -/
namespace Go.Proofs.YticpebpicdboaaaGreatDoor
set_option linter.unusedVariables false

/-- a is not behind b -/
def leT (a b : ByteArray) : Prop := Op.bytesLess b.toList a.toList = false
theorem leT_iff {a b : ByteArray} : leT a b ↔ a.data.toList ≤ b.data.toList := by
  unfold leT
  rw [bytesLess_eq, Lib.toList_data, Lib.toList_data, decide_eq_false_iff_not]
  exact List.not_lt
theorem leT_refl (a : ByteArray) : leT a a := leT_iff.2 (List.le_refl _)
theorem leT_trans {a b c : ByteArray} (h : leT a b) (k : leT b c) : leT a c := leT_iff.2 (List.le_trans (leT_iff.1 h) (leT_iff.1 k))
theorem leT_total (a b : ByteArray) : leT a b ∨ leT b a := (List.le_total a.data.toList b.data.toList).imp leT_iff.2 leT_iff.2
theorem leT_antisymm {a b : ByteArray} (h : leT a b) (k : leT b a) : a = b := by
  have := List.le_antisymm (leT_iff.1 h) (leT_iff.1 k)
  cases a; cases b
  simp only [ByteArray.mk.injEq] at this ⊢
  exact Array.toList_inj.1 this
theorem leT_of_less {a b : ByteArray} (h : Op.bytesLess a.toList b.toList = true) : leT a b := by
  rcases leT_total a b with k | k
  · exact k
  · unfold leT at k
    rw [h] at k
    cases k

/-- ts are xs in their order -/
def Sorts (xs ts : List ByteArray) : Prop := ts.Perm xs ∧ ts.Pairwise leT
theorem sorted_unique : ∀ {l m : List ByteArray}, l.Perm m → l.Pairwise leT → m.Pairwise leT → l = m
  | [], m, h, _, _ => (List.Perm.eq_nil (h.symm)).symm
  | a :: l, [], h, _, _ => by simpa using h.length_eq
  | a :: l, b :: m, h, h1, h2 => by
    rw [List.pairwise_cons] at h1 h2
    have e : a = b := by
      have ha : a ∈ b :: m := h.subset (List.mem_cons_self)
      have hb : b ∈ a :: l := h.symm.subset (List.mem_cons_self)
      rcases List.mem_cons.1 ha with e | ha
      · exact e
      rcases List.mem_cons.1 hb with e | hb
      · exact e.symm
      exact leT_antisymm (h1.1 b hb) (h2.1 a ha)
    subst e
    rw [sorted_unique (List.Perm.cons_inv h) h1.2 h2.2]
theorem Sorts.unique {xs ys ts us : List ByteArray} (h : Sorts xs ts) (k : Sorts ys us) (e : xs.Perm ys) : ts = us :=
  sorted_unique (h.1.trans (e.trans k.1.symm)) h.2 k.2

def insT (x : ByteArray) : List ByteArray → List ByteArray
  | [] => [x]
  | y :: l => if Op.bytesLess x.toList y.toList = true then x :: y :: l else y :: insT x l
theorem insT_perm (x : ByteArray) : ∀ l, (insT x l).Perm (x :: l)
  | [] => List.Perm.refl _
  | y :: l => by
    unfold insT
    split
    · exact List.Perm.refl _
    · exact ((insT_perm x l).cons y).trans (List.Perm.swap x y l)
theorem insT_pairwise (x : ByteArray) : ∀ {l : List ByteArray}, l.Pairwise leT → (insT x l).Pairwise leT
  | [], _ => List.pairwise_singleton _ _
  | y :: l, h => by
    unfold insT
    have h' := List.pairwise_cons.1 h
    split
    · rename_i hxy
      refine List.pairwise_cons.2 ⟨fun z hz => ?_, h⟩
      rcases List.mem_cons.1 hz with rfl | hz
      · exact leT_of_less hxy
      · exact leT_trans (leT_of_less hxy) (h'.1 z hz)
    · rename_i hxy
      refine List.pairwise_cons.2 ⟨fun z hz => ?_, insT_pairwise x h'.2⟩
      rcases List.mem_cons.1 ((insT_perm x l).subset hz) with rfl | hz
      · unfold leT
        simpa using hxy
      · exact h'.1 z hz
/-- the texts in their order -/
def sortT : List ByteArray → List ByteArray
  | [] => []
  | x :: l => insT x (sortT l)
theorem sortT_perm : ∀ l, (sortT l).Perm l
  | [] => List.Perm.refl _
  | x :: l => (insT_perm x _).trans ((sortT_perm l).cons x)
theorem sortT_pairwise : ∀ l, (sortT l).Pairwise leT
  | [] => List.Pairwise.nil
  | x :: l => insT_pairwise x (sortT_pairwise l)
theorem sortT_is {xs ts : List ByteArray} (h : Sorts xs ts) : ts = sortT xs := h.unique ⟨sortT_perm xs, sortT_pairwise xs⟩ (List.Perm.refl _)
theorem sortT_eq {xs ys : List ByteArray} (h : xs.Perm ys) : sortT xs = sortT ys := Sorts.unique ⟨sortT_perm xs, sortT_pairwise xs⟩ ⟨sortT_perm ys, sortT_pairwise ys⟩ h

/-! Heaps: places of a row of texts, told by a function. -/
abbrev ix (l : List ByteArray) (i : Nat) : ByteArray := l.getD i ByteArray.empty
/-- none is behind one below it, but perhaps that at a place, which may be ahead of the one above it -/
def UpAt (l : List ByteArray) (p : Nat) : Prop :=
  (∀ i, 0 < i → i < l.length → i ≠ p → leT (ix l ((i - 1) / 2)) (ix l i)) ∧
  (∀ i, 0 < i → i < l.length → (i - 1) / 2 = p → 0 < p → leT (ix l ((p - 1) / 2)) (ix l i))
/-- none is behind one below it, but perhaps that at a place behind those below it -/
def DownAt (l : List ByteArray) (p : Nat) : Prop :=
  (∀ i, 0 < i → i < l.length → (i - 1) / 2 ≠ p → leT (ix l ((i - 1) / 2)) (ix l i)) ∧
  (∀ i, 0 < i → i < l.length → (i - 1) / 2 = p → 0 < p → leT (ix l ((p - 1) / 2)) (ix l i))
def IsHeap (l : List ByteArray) : Prop := ∀ i, 0 < i → i < l.length → leT (ix l ((i - 1) / 2)) (ix l i)
/-- two places changed for one another -/
def sw (l : List ByteArray) (a b : Nat) : List ByteArray := (l.set a (ix l b)).set b (ix l a)
theorem sw_length (l : List ByteArray) (a b : Nat) : (sw l a b).length = l.length := by simp [sw]
theorem ix_set (l : List ByteArray) (a : Nat) (v : ByteArray) (i : Nat) (ha : a < l.length) : ix (l.set a v) i = if i = a then v else ix l i := by
  unfold ix
  rw [List.getD_eq_getElem?_getD, List.getD_eq_getElem?_getD, List.getElem?_set]
  by_cases h : i = a
  · subst h
    simp [ha]
  · rw [if_neg (fun e => h e.symm), if_neg h]
theorem sw_ix (l : List ByteArray) (a b i : Nat) (ha : a < l.length) (hb : b < l.length) : ix (sw l a b) i = if i = b then ix l a else if i = a then ix l b else ix l i := by
  unfold sw
  rw [ix_set _ _ _ _ (by simpa using hb), ix_set _ _ _ _ ha]
theorem sw_perm (l : List ByteArray) (a b : Nat) (ha : a < l.length) (hb : b < l.length) : (sw l a b).Perm l := by
  unfold sw ix
  rw [List.getD_eq_getElem?_getD, List.getD_eq_getElem?_getD, List.getElem?_eq_getElem ha, List.getElem?_eq_getElem hb]
  simp only [Option.getD_some]
  exact List.set_set_perm ha hb
theorem up_swap {l : List ByteArray} {p : Nat} (hp : 0 < p) (hl : p < l.length) (h : UpAt l p) (hless : leT (ix l p) (ix l ((p - 1) / 2))) : UpAt (sw l p ((p - 1) / 2)) ((p - 1) / 2) := by
  obtain ⟨h1, h2⟩ := h
  have hq : (p - 1) / 2 < p := by omega
  generalize hqq : (p - 1) / 2 = q at *
  refine ⟨fun i hi hil hne => ?_, fun i hi hil hpi hq0 => ?_⟩
  · rw [sw_length] at hil
    rw [sw_ix _ _ _ _ hl (by omega), sw_ix _ _ _ _ hl (by omega), if_neg hne]
    by_cases e : i = p
    · subst e
      rw [hqq, if_pos rfl, if_pos rfl]
      exact hless
    · rw [if_neg e]
      by_cases e1 : (i - 1) / 2 = q
      · rw [if_pos e1]
        have := h1 i hi hil e
        rw [e1] at this
        exact leT_trans hless this
      · rw [if_neg e1]
        by_cases e2 : (i - 1) / 2 = p
        · rw [if_pos e2]
          exact h2 i hi hil e2 hp
        · rw [if_neg e2]
          exact h1 i hi hil e
  · rw [sw_length] at hil
    have hqs : (q - 1) / 2 < q := by omega
    rw [sw_ix _ _ _ _ hl (by omega), sw_ix _ _ _ _ hl (by omega), if_neg (by omega), if_neg (by omega), if_neg (by omega)]
    have hqq2 := h1 q hq0 (by omega) (by omega)
    by_cases e : i = p
    · rw [if_pos e]
      exact hqq2
    · rw [if_neg e]
      have := h1 i hi hil e
      rw [hpi] at this
      exact leT_trans hqq2 this
theorem up_done {l : List ByteArray} {p : Nat} (h : UpAt l p) (h0 : p = 0 ∨ leT (ix l ((p - 1) / 2)) (ix l p)) : IsHeap l := by
  intro i hi hil
  by_cases e : i = p
  · subst e
    rcases h0 with h0 | h0
    · omega
    · exact h0
  · exact h.1 i hi hil e
theorem up_snoc {l : List ByteArray} (h : IsHeap l) (x : ByteArray) : UpAt (l ++ [x]) l.length := by
  refine ⟨fun i hi hil hne => ?_, fun i hi hil hp h0 => ?_⟩
  · rw [List.length_append] at hil
    simp only [List.length_cons, List.length_nil] at hil
    have e : ∀ j, j < l.length → ix (l ++ [x]) j = ix l j := fun j hj => by
      unfold ix
      rw [List.getD_eq_getElem?_getD, List.getD_eq_getElem?_getD, List.getElem?_append_left hj]
    rw [e _ (by omega), e _ (by omega)]
    exact h i hi (by omega)
  · rw [List.length_append] at hil
    simp only [List.length_cons, List.length_nil] at hil
    omega
theorem down_swap {l : List ByteArray} {p m : Nat} (hl : p < l.length) (hm : m < l.length) (h : DownAt l p) (hpm : m = 2 * p + 1 ∨ m = 2 * p + 2)
    (hle : ∀ j, (j = p ∨ j = 2 * p + 1 ∨ j = 2 * p + 2) → j < l.length → leT (ix l m) (ix l j)) : DownAt (sw l p m) m := by
  obtain ⟨h1, h2⟩ := h
  have hpar : (m - 1) / 2 = p := by omega
  refine ⟨fun i hi hil hne => ?_, fun i hi hil hpi h0 => ?_⟩
  · rw [sw_length] at hil
    rw [sw_ix _ _ _ _ hl hm, sw_ix _ _ _ _ hl hm, if_neg hne]
    by_cases e1 : (i - 1) / 2 = p
    · rw [if_pos e1]
      by_cases e : i = m
      · rw [if_pos e]
        exact hle p (.inl rfl) hl
      · rw [if_neg e, if_neg (by omega)]
        exact hle i (by omega) hil
    · rw [if_neg e1, if_neg (by rintro rfl; exact e1 hpar)]
      by_cases e : i = p
      · subst e
        rw [if_pos rfl]
        exact h2 m (by omega) hm hpar (by omega)
      · rw [if_neg e]
        exact h1 i hi hil e1
  · rw [sw_length] at hil
    have hq : (m - 1) / 2 = p := hpar
    rw [hq, sw_ix _ _ _ _ hl hm, sw_ix _ _ _ _ hl hm, if_neg (by omega), if_pos rfl, if_neg (by omega), if_neg (by omega)]
    have := h1 i hi hil (by omega)
    rw [hpi] at this
    exact this
theorem down_done {l : List ByteArray} {p : Nat} (h : DownAt l p) (hle : ∀ j, (j = 2 * p + 1 ∨ j = 2 * p + 2) → j < l.length → leT (ix l p) (ix l j)) : IsHeap l := by
  intro i hi hil
  by_cases e : (i - 1) / 2 = p
  · rw [e]
    exact hle i (by omega) hil
  · exact h.1 i hi hil e
theorem heap_least {l : List ByteArray} (h : IsHeap l) : ∀ i, i < l.length → leT (ix l 0) (ix l i) := by
  intro i
  induction i using Nat.strongRecOn with
  | ind i ih =>
    intro hi
    by_cases h0 : i = 0
    · subst h0; exact leT_refl _
    · exact leT_trans (ih ((i - 1) / 2) (by omega) (by omega)) (h i (by omega) hi)
/-- the last one laid at the front, and taken off the end -/
def tk (l : List ByteArray) : List ByteArray := (l.set 0 (ix l (l.length - 1))).take (l.length - 1)
theorem tk_length (l : List ByteArray) : (tk l).length = l.length - 1 := by simp [tk]
theorem tk_ix (l : List ByteArray) (i : Nat) (hi : i < l.length - 1) : ix (tk l) i = if i = 0 then ix l (l.length - 1) else ix l i := by
  rw [← ix_set l 0 _ i (by omega)]
  unfold tk ix
  rw [List.getD_eq_getElem?_getD, List.getElem?_take, if_pos hi, ← List.getD_eq_getElem?_getD]
theorem tk_down {l : List ByteArray} (h : IsHeap l) : DownAt (tk l) 0 := by
  refine ⟨fun i hi hil hne => ?_, fun i hi hil hp h0 => by omega⟩
  rw [tk_length] at hil
  rw [tk_ix _ _ (by omega), tk_ix _ _ (by omega), if_neg hne, if_neg (by omega)]
  exact h i hi (by omega)
theorem tk_perm {l : List ByteArray} (h : 0 < l.length) : l.Perm (ix l 0 :: tk l) := by
  rcases List.eq_nil_or_concat l with rfl | ⟨m, x, rfl⟩
  · simp at h
  · rw [List.concat_eq_append] at *
    cases m with
    | nil => simp [tk, ix]
    | cons y m =>
      have e1 : ix ((y :: m) ++ [x]) 0 = y := rfl
      have e2 : tk ((y :: m) ++ [x]) = x :: m := by
        have e3 : ix ((y :: m) ++ [x]) (((y :: m) ++ [x]).length - 1) = x := by simp [ix, List.getD_eq_getElem?_getD]
        unfold tk
        rw [e3]
        simp
      rw [e1, e2]
      exact (List.perm_append_comm (l₁ := y :: m) (l₂ := [x])).trans (List.Perm.swap y x m)
theorem heap_min {l : List ByteArray} (h : IsHeap l) (y : ByteArray) (hy : y ∈ l) : leT (ix l 0) y := by
  obtain ⟨i, hi, rfl⟩ := List.getElem_of_mem hy
  have := heap_least h i hi
  have e : ix l i = l[i] := by
    unfold ix
    rw [List.getD_eq_getElem?_getD, List.getElem?_eq_getElem hi]
    rfl
  rwa [e] at this

/-- each text with the mark behind it -/
def linesT (ts : List ByteArray) : List UInt8 := ts.flatMap fun t => t.data.toList ++ [60]
theorem linesT_snoc (ts : List ByteArray) (t : ByteArray) : linesT (ts ++ [t]) = linesT ts ++ (t.data.toList ++ [60]) := by simp [linesT]
end Go.Proofs.YticpebpicdboaaaGreatDoor

/- What may still be met, in plain words (for the program's readings). -/
namespace Go.Proofs.YticpebpicdboaaaGreatDoor
set_option linter.unusedVariables false
set_option linter.unusedSimpArgs false

open Classical in
/-- what is left of ts when sn has been met -/
noncomputable def leftT (ts sn : List ByteArray) : List ByteArray := ts.filter fun t => decide (t ∉ sn)
theorem leftT_mem {ts sn : List ByteArray} {t : ByteArray} : t ∈ leftT ts sn ↔ t ∈ ts ∧ t ∉ sn := by
  unfold leftT
  rw [List.mem_filter]
  simp
theorem leftT_nil (ts : List ByteArray) : leftT ts [] = ts := by
  unfold leftT
  rw [List.filter_eq_self]
  intro a _
  simp
open Classical in
theorem leftT_more (ts sn : List ByteArray) (x : ByteArray) : leftT ts (sn ++ [x]) = (leftT ts sn).filter fun t => decide (t ≠ x) := by
  unfold leftT
  rw [List.filter_filter]
  congr 1
  funext t
  by_cases h1 : t ∈ sn <;> by_cases h2 : t = x <;> simp [h1, h2]
theorem text_same {a b : ByteArray} (h : a.toList = b.toList) : a = b := by
  rw [Lib.toList_data, Lib.toList_data] at h
  cases a; cases b
  simp only [ByteArray.mk.injEq] at h ⊢
  exact Array.toList_inj.1 h
def rootTs : List ByteArray := [fromT, toT, typeT]
def partTs : List ByteArray := [showNm, statusNm, prioNm]
theorem rootOne_out {x : At} {p : Pr} (h : x.name ∉ rootTs) : rootOne x p = none := by
  unfold rootTs at h
  simp only [List.mem_cons, List.not_mem_nil, or_false, not_or] at h
  unfold rootOne
  rw [if_neg (fun e => h.1 (text_same e)), if_neg (fun e => h.2.1 (text_same e)), if_neg (fun e => h.2.2 (text_same e))]
theorem partP_out {l : List It} {i : Nat} {p : Pr} (h : (l.getD i dIt).name ∉ partTs) : partP l i p = none := by
  unfold partTs at h
  simp only [List.mem_cons, List.not_mem_nil, or_false, not_or] at h
  unfold partP
  cases textL l i with
  | none => rfl
  | some t =>
    dsimp only
    split
    · rfl
    · rw [if_neg (fun e => h.1 (text_same e)), if_neg (fun e => h.2.1 (text_same e)), if_neg (fun e => h.2.2 (text_same e))]
/-- names that rise differ -/
theorem names_apart {l : List At} (h : rises l = true) : ∀ {k j : Nat}, j < k → k < l.length → leT (l.getD j dAt).name (l.getD k dAt).name ∧ (l.getD j dAt).name ≠ (l.getD k dAt).name := by
  have hstep : ∀ i, 1 ≤ i → i < l.length → Op.bytesLess (l.getD (i - 1) dAt).name.toList (l.getD i dAt).name.toList = true := by
    intro i h1 hi
    unfold rises at h
    rw [List.all_eq_true] at h
    have := h i (List.mem_range.2 hi)
    have h0 : (i == 0) = false := by rw [beq_eq_false_iff_ne]; omega
    rw [h0, Bool.false_or] at this
    exact this
  have hne : ∀ {a b : ByteArray}, Op.bytesLess a.toList b.toList = true → ¬ leT b a := fun h k => by
    unfold leT at k
    rw [h] at k
    cases k
  intro k
  induction k with
  | zero => intro j hj; omega
  | succ k ih =>
    intro j hj hk
    have hs := hstep (k + 1) (by omega) hk
    rw [show k + 1 - 1 = k by omega] at hs
    by_cases hjk : j = k
    · subst hjk
      exact ⟨leT_of_less hs, fun e => hne hs (by rw [e]; exact leT_refl _)⟩
    · obtain ⟨h1, h2⟩ := ih (j := j) (by omega) (by omega)
      refine ⟨leT_trans h1 (leT_of_less hs), fun e => ?_⟩
      rw [e] at h1
      exact hne hs h1
theorem atts_rise {x : It} (hg : itemCode x = 0) : rises x.attrs = true := by
  cases he : x.name.toList.isEmpty
  · unfold itemCode at hg
    split at hg
    · omega
    · rw [if_neg (by rw [he]; simp)] at hg
      unfold elemCode at hg
      split at hg
      · omega
      · split at hg
        · omega
        · split at hg
          · unfold attrsCode at hg
            split at hg
            · omega
            · cases hf : x.attrs.find? (fun x => atFault x != 0) with
              | some y =>
                rw [hf] at hg
                have := List.find?_some hf
                rw [bne_iff_ne] at this
                exact absurd hg this
              | none =>
                rw [hf] at hg
                dsimp only at hg
                split at hg
                · assumption
                · omega
          · rename_i h3
            exact absurd hg h3
  · have e := text_attrs hg he
    rw [e]
    rfl
/-- the names of the first attributes -/
def firstNs (l : List At) (k : Nat) : List ByteArray := (List.range k).map fun i => (l.getD i dAt).name
theorem firstNs_more (l : List At) (k : Nat) : firstNs l (k + 1) = firstNs l k ++ [(l.getD k dAt).name] := by
  unfold firstNs
  rw [List.range_succ, List.map_append, List.map_cons, List.map_nil]
theorem firstNs_new {l : List At} (h : rises l = true) {k : Nat} (hk : k < l.length) : (l.getD k dAt).name ∉ firstNs l k := by
  unfold firstNs
  intro hm
  obtain ⟨j, hj, e⟩ := List.mem_map.1 hm
  exact (names_apart h (List.mem_range.1 hj) hk).2 e
/-- an attribute's name may still be met iff it is one of the three -/
theorem left_root {l : List At} (h : rises l = true) {k : Nat} (hk : k < l.length) : (l.getD k dAt).name ∈ leftT rootTs (firstNs l k) ↔ (l.getD k dAt).name ∈ rootTs := by
  rw [leftT_mem]
  exact ⟨fun h => h.1, fun h2 => ⟨h2, firstNs_new h hk⟩⟩
theorem has_in {ts : List ByteArray} {t : ByteArray} : 0 ≤ hasIx ts t ↔ t ∈ ts := by
  have h : ts.findIdx (fun x => x.toList == t.toList) < ts.length ↔ t ∈ ts := by
    rw [List.findIdx_lt_length]
    constructor
    · rintro ⟨x, hx, he⟩
      rw [beq_iff_eq] at he
      exact text_same he ▸ hx
    · intro hx
      exact ⟨t, hx, by simp⟩
  rw [← h]
  unfold hasIx
  split <;> omega
/-- a child whose name may no longer be met, or never could -/
theorem kidOne_no {l : List It} {i : Nat} {sn : List ByteArray} {p : Pr} (hs : ¬ (l.getD i dIt).space.toList ≠ csL) (h : (l.getD i dIt).name ∉ leftT partTs sn) : kidOne l i (sn, p) = none := by
  unfold kidOne
  by_cases he : (l.getD i dIt).name.toList.isEmpty = true
  · rw [if_pos he]
  · rw [if_neg he, if_neg hs]
    by_cases hm : (l.getD i dIt).name ∈ sn
    · rw [if_pos (has_in.2 hm)]
    · rw [if_neg (fun e => hm (has_in.1 e)), partP_out (fun e => h (leftT_mem.2 ⟨e, hm⟩))]
/-- a child whose name may be met -/
theorem kidOne_yes {l : List It} {i : Nat} {sn : List ByteArray} {p : Pr} (he : (l.getD i dIt).name.toList.isEmpty = false) (hs : ¬ (l.getD i dIt).space.toList ≠ csL) (h : (l.getD i dIt).name ∈ leftT partTs sn) :
    kidOne l i (sn, p) = match partP l i p with | some q => some (sn ++ [(l.getD i dIt).name], q) | none => none := by
  unfold kidOne
  rw [if_neg (by rw [he]; simp), if_neg hs, if_neg (fun e => (leftT_mem.1 h).2 (has_in.1 e))]
  rfl
/-- a child of another space -/
theorem kidOne_other {l : List It} {i : Nat} {sn : List ByteArray} {p : Pr} (he : (l.getD i dIt).name.toList.isEmpty = false) (hs : (l.getD i dIt).space.toList ≠ csL) : kidOne l i (sn, p) = some (sn, { p with more := p.more ++ movedTo l i (endL l i) (-1) }) := by
  unfold kidOne
  rw [if_neg (by rw [he]; simp), if_pos hs]
end Go.Proofs.YticpebpicdboaaaGreatDoor

/- The program's map of readings: how it lies in memory. -/
namespace Go.Proofs.YticpebpicdboaaaGreatDoor
open Go.ChangeShapes Go.WideShapes Go.ChangeAt Go.RowKit
set_option linter.unusedVariables false

def mkey (t : ByteArray) : Lit := .string t.data.toList
theorem mkey_is (t : ByteArray) : WideAt.IsKeyLit (mkey t) := by simp [mkey, WideAt.IsKeyLit]
theorem mkey_ne {s t : ByteArray} (h : s ≠ t) : mkey s ≠ mkey t := by
  intro e
  apply h
  unfold mkey at e
  simp only [Lit.string.injEq] at e
  cases s
  cases t
  simp only [ByteArray.mk.injEq]
  exact Array.toList_inj.1 e
/-- the method f of the reader in block pb -/
def methV (pb f : Nat) : Value := .func (.func f) #[.pointer (some ⟨pb, 0, none⟩)] #[]
theorem methV_inj {pb f g : Nat} (h : methV pb f = methV pb g) : f = g := by
  unfold methV at h
  injection h with h1 _ _
  injection h1
open Classical in
/-- a method of the reader in block pb, as what a map holds -/
noncomputable def methElem (pb : Nat) (v : Value) : Option (DataW Unit × List MemPlace) :=
  if h : ∃ f, v = methV pb f then some (.lit (.int .i64 (Classical.choose h : Nat)), []) else if v = .nilFunc then some (.lit (.int .i64 (-1)), []) else none
theorem methElem_is (pb f : Nat) : methElem pb (methV pb f) = some (.lit (.int .i64 (f : Int)), []) := by
  have h : ∃ g, methV pb f = methV pb g := ⟨f, rfl⟩
  unfold methElem
  rw [dif_pos h]
  have := methV_inj (Classical.choose_spec h)
  rw [← this]
theorem methElem_nil (pb : Nat) : methElem pb .nilFunc = some (.lit (.int .i64 (-1)), []) := by
  have h : ¬ ∃ g, Value.nilFunc = methV pb g := fun ⟨g, h⟩ => by unfold methV at h; cases h
  unfold methElem
  rw [dif_neg h, if_pos rfl]
theorem methElem_inv {pb f : Nat} {v : Value} {ps : List MemPlace} (h : methElem pb v = some (.lit (.int .i64 (f : Int)), ps)) : v = methV pb f := by
  unfold methElem at h
  split at h
  · rename_i he
    simp only [Option.some.injEq, Prod.mk.injEq, DataW.lit.injEq, Lit.int.injEq] at h
    have h1 := Classical.choose_spec he
    have h2 : Classical.choose he = f := by have := h.1.2; omega
    rw [h2] at h1
    exact h1
  · split at h
    · simp only [Option.some.injEq, Prod.mk.injEq, DataW.lit.injEq, Lit.int.injEq] at h
      omega
    · cases h
/-- the map holds g t for each t of ts, and nothing else -/
structure May (D : DataW Unit) (ts : List ByteArray) (g : ByteArray → Nat) : Prop where
  isMap : Maps.IsMap D
  has : ∀ t, Maps.has D (mkey t) = true ↔ t ∈ ts
  at_ : ∀ t, t ∈ ts → ∀ z, D.atKey (mkey t) z = .lit (.int .i64 (g t : Int))
theorem May.empty (g : ByteArray → Nat) : May (.map []) [] g :=
  ⟨Maps.isMap_empty, fun t => ⟨fun h => by simp [Maps.has] at h, fun h => by cases h⟩, fun t h => by cases h⟩
theorem May.add {D : DataW Unit} {ts : List ByteArray} {g : ByteArray → Nat} {t : ByteArray} (h : May D ts g) (hn : t ∉ ts) : May (D.put (mkey t) (.lit (.int .i64 (g t : Int)))) (ts ++ [t]) g := by
  refine ⟨h.isMap.put _ _, fun s => ?_, fun s hs z => ?_⟩
  · by_cases e : s = t
    · subst e
      rw [Maps.has_put_same h.isMap (mkey_is s)]
      simp
    · rw [Maps.has_put_other (mkey_ne e), h.has s]
      simp [e]
  · by_cases e : s = t
    · subst e
      rw [Maps.atKey_put_same h.isMap (mkey_is s)]
    · rw [Maps.atKey_put_other (mkey_ne e)]
      exact h.at_ s (by simpa [e] using hs) z
open Classical in
theorem May.del {D : DataW Unit} {ts : List ByteArray} {g : ByteArray → Nat} (h : May D ts g) (x : ByteArray) : May (D.del (mkey x)) (ts.filter fun t => decide (t ≠ x)) g := by
  refine ⟨h.isMap.del _, fun s => ?_, fun s hs z => ?_⟩
  · rw [List.mem_filter]
    by_cases e : s = x
    · subst e
      rw [Maps.has_del_same]
      simp
    · rw [Maps.has_del_other (mkey_ne e), h.has s]
      simp [e]
  · rw [List.mem_filter] at hs
    have e : s ≠ x := by simpa using hs.2
    rw [Maps.atKey_del_other (mkey_ne e)]
    exact h.at_ s hs.1 z
end Go.Proofs.YticpebpicdboaaaGreatDoor
