/- impl.nodesOf. -/
import Derived.Test.YtjkmgpomcnplnaaGreatDoorGS25
import Derived.Test.YtjkmgpomcnplnaaGreatDoorGS12
import Derived.Test.YtjkmgpomcnplnaaGreatDoorGS0
import Derived.Deep.DeepCutAuto
namespace Go.Proofs.YtjkmgpomcnplnaaGreatDoor
open Go.ChangeShapes Go.WideShapes Go.ChangeAt Go.RowKit
set_option linter.unusedVariables false
theorem nodeInfo : (Tryz.prog.info? 100).map (fun i => (i.zero, i.size, i.bytes)) = some (some (.pointer none), 1, 8) := by kernel_rfl
theorem ptrCells (W : World) (v : Value) (j : Nat) (u : Value) (hj : [v][j]? = some u) : (W.alloc (.cells #[v] 100)).cell? (Addr.add ⟨W.heap.size, 0, none⟩ j) = some u := by
  match j, hj with
  | 0, hj => simp at hj; subst hj; simp [Addr.add]
theorem kidsUp_none (l : List It) {m j : Nat} (h : m ≤ j) : kidsUp l m j = [] := by
  unfold kidsUp
  rw [List.filter_eq_nil_iff]
  intro k hk
  rw [List.mem_range] at hk
  unfold kidB
  by_cases e : parOf l k = some j
  · have := (lastAt_is e).1
    omega
  · rw [decide_eq_false e]; simp
def partTy (x : It) : TypeId := if x.name.toList.isEmpty then 87 else 88
theorem part_any (bi oi j : Nat) (x : It) (w : World) (h : ItAt w bi (oi + j * 5) x) :
    Calls Tryz.prog 33 #[.pointer (some ⟨bi, oi + j * 5, none⟩)] w fun e w' => e = .returned (.iface (partTy x) (.agg #[.pointer (some ⟨bi, oi + j * 5, none⟩)])) ∧ w' = w := by
  unfold partTy
  cases hx : x.name.toList.isEmpty
  · exact partOf_elem bi (oi + j * 5) x w h hx
  · exact partOf_text bi (oi + j * 5) x w h hx
def Lasts (w : World) (lb : Nat) (l : List It) (m : Nat) (nb : Nat → Nat) : Prop := lb < w.heap.size ∧ ∀ d, d < 7 → w.cell? ⟨lb, d, none⟩ = some (ptrO nb (lastAt l (d : Int) m)) ∧ w.frozen? ⟨lb, d, none⟩ = false
theorem Lasts.below {w w' : World} {lb m : Nat} {l : List It} {nb : Nat → Nat} (h : Lasts w lb l m nb) (hb : Below w.heap.size w w') : Lasts w' lb l m nb :=
  ⟨Nat.lt_of_lt_of_le h.1 hb.size, fun d hd => ⟨(hb.cell (p := ⟨lb, d, none⟩) h.1).trans (h.2 d hd).1, (hb.frozen (p := ⟨lb, d, none⟩) h.1).trans (h.2 d hd).2⟩⟩
theorem Lasts.only {P : Nat → Prop} {w w' : World} {lb m : Nat} {l : List It} {nb : Nat → Nat} (h : Lasts w lb l m nb) (ho : Only P w w') (hn : ¬ P lb) : Lasts w' lb l m nb :=
  ⟨Nat.lt_of_lt_of_le h.1 ho.size, fun d hd => ⟨(ho.cell (p := ⟨lb, d, none⟩) h.1 hn).trans (h.2 d hd).1, (ho.frozen (p := ⟨lb, d, none⟩) h.1 hn).trans (h.2 d hd).2⟩⟩
theorem Lasts.step {w : World} {lb m dm : Nat} {l : List It} {nb : Nat → Nat} (h : Lasts w lb l m nb) (k : Nat) (hd : dp l m = (dm : Int)) : Lasts (w.setCell ⟨lb, dm, none⟩ (ptrN k)) lb l (m + 1) (putA m k nb) := by
  refine ⟨by simpa using h.1, fun d hd7 => ⟨?_, by rw [World.frozen?_setCell]; exact (h.2 d hd7).2⟩⟩
  unfold lastAt
  by_cases e : d = dm
  · subst e
    rw [if_pos hd, World.cell?_setCell_same _ _ _ (h.2 d hd7).1]
    simp [ptrO, ptrN, putA_at]
  · rw [if_neg (by rw [hd]; omega), World.cell?_setCell_other _ _ _ _ (fun q => e (congrArg Addr.off q).symm), (h.2 d hd7).1]
    unfold ptrO
    cases hl : lastAt l (d : Int) m with
    | none => rfl
    | some i =>
      have := (lastAt_is hl).1
      simp only [Option.map_some]
      rw [putA_ne _ _ (by omega)]
theorem kids_root {l : List It} {m : Nat} (h : dp l m = 0) (j : Nat) (hj : j < m + 1) : putA m [] (kidsUp l m) j = kidsUp l (m + 1) j := by
  rw [kidsUp_succ, kidB_root h]
  by_cases e : j = m
  · subst e
    rw [putA_at, kidsUp_none l (Nat.le_refl _)]; rfl
  · rw [putA_ne _ _ e]; simp
theorem kids_under {l : List It} {m p : Nat} (h0 : 0 < dp l m) (hp : parOf l m = some p) (hpm : p < m) (j : Nat) (hj : j < m + 1) : putA p (putA m [] (kidsUp l m) p ++ [m]) (putA m [] (kidsUp l m)) j = kidsUp l (m + 1) j := by
  rw [kidsUp_succ, kidB_par h0 hp]
  by_cases e : j = p
  · subst e
    rw [putA_at, putA_ne _ _ (by omega)]; simp
  · rw [putA_ne _ _ e]
    by_cases e2 : j = m
    · subst e2
      rw [putA_at, kidsUp_none l (Nat.le_refl _)]; simp [e]
    · rw [putA_ne _ _ e2]; simp [e]
def NodesRes (w : World) (bi oi : Nat) (l : List It) (e : Ending) (w' : World) : Prop :=
  ∃ (rb B : Nat) (nb : Nat → Nat) (KA : Nat → Option Addr) (KN KC : Nat → Nat), e = .returned (.slice (some ⟨rb, 0, none⟩) l.length l.length) ∧ w.heap.size ≤ rb ∧ rb < B ∧ Nodes w' B bi oi l l.length nb KA KN KC (kidsUp l l.length) ∧ (∀ i, i < l.length → w'.cell? ⟨rb, i, none⟩ = some (ptrN (nb i))) ∧ Below w.heap.size w w'
set_option maxRecDepth 100000 in
set_option maxHeartbeats 3200000 in
theorem nodesOf_any (bi oi c : Nat) (l : List It) (w : World) (h : Rises l) (hI : ∀ i, i < l.length → ItAt w bi (oi + i * 5) (l.getD i dIt)) :
    Calls Tryz.prog 75 #[.slice (some ⟨bi, oi, none⟩) l.length c] w (NodesRes w bi oi l) := by
  obtain ⟨i0, hi, hz0, hz1, hz2⟩ := info_parts nodeInfo
  have H := Lib.hid h
  have HI := Lib.hid hI
  have hbi : bi < w.heap.size := (hI 0 (by have := h.some; omega)).lt
  have hn40 := h.few
  have hn1 := h.some
  unfold NodesRes
  clear h hI
  obtain ⟨n, hn⟩ : ∃ n, l.length = n := ⟨_, rfl⟩
  rw [hn] at hn40 hn1 ⊢
  have HN := Lib.hid hn
  clear hn
  go_enter Tryz.func75, Tryz.ntmps75
  go_wp2_with (at_make; refine wpList_make_full _ rfl _ _ 97 rfl w.heap.size 100 i0 _ 1 Tryz.underlying97 hi hz0 hz1 .i64 .i64 (n : Int) (n : Int) n rfl rfl rfl rfl (by rw [hz2]; omega) (by unfold maxLen; omega) (Nat.le_refl _) ?_)
  intro w1 ho1 hg1
  have HRoom := Lib.hid (room_made ho1)
  have HB1 := Lib.hid (below_made hg1)
  have hs1 : w.heap.size < w1.heap.size := (room_made ho1).1
  clear ho1 hg1
  go_upto_region 3 with fail
  have hL0 : Lasts (w1.alloc (.cells #[.pointer none, .pointer none, .pointer none, .pointer none, .pointer none, .pointer none, .pointer none] 131)) w1.heap.size l 0 (fun _ => 0) := ⟨by simp, fun d hd => by
    match d, hd with
    | 0, _ => exact ⟨by simp [ptrO, lastAt], by go_simp⟩
    | 1, _ => exact ⟨by simp [ptrO, lastAt], by go_simp⟩
    | 2, _ => exact ⟨by simp [ptrO, lastAt], by go_simp⟩
    | 3, _ => exact ⟨by simp [ptrO, lastAt], by go_simp⟩
    | 4, _ => exact ⟨by simp [ptrO, lastAt], by go_simp⟩
    | 5, _ => exact ⟨by simp [ptrO, lastAt], by go_simp⟩
    | 6, _ => exact ⟨by simp [ptrO, lastAt], by go_simp⟩⟩
  have HL0 := Lib.hid hL0
  have HR0 := Lib.hid (HRoom.out.below (below1 w1 (.cells #[.pointer none, .pointer none, .pointer none, .pointer none, .pointer none, .pointer none, .pointer none] 131)))
  have HB0 := Lib.hid (below_then HB1.out (below1 w1 (.cells #[.pointer none, .pointer none, .pointer none, .pointer none, .pointer none, .pointer none, .pointer none] 131)))
  have hs0 : (w1.alloc (.cells #[.pointer none, .pointer none, .pointer none, .pointer none, .pointer none, .pointer none, .pointer none] 131)).heap.size = w1.heap.size + 1 := by simp
  clear hL0 HB1 HRoom
  generalize w1.alloc (.cells #[.pointer none, .pointer none, .pointer none, .pointer none, .pointer none, .pointer none, .pointer none] 131) = W0 at HL0 HR0 HB0 hs0 ⊢
  generalize hlb : w1.heap.size = lb at HL0 hs1 hs0 ⊢
  clear hlb
  go_wp2
  go_loopw [14] (fun i wr => ∃ (j : Nat) (nb : Nat → Nat) (KA : Nat → Option Addr) (KN KC : Nat → Nat), j ≤ n ∧ i = .int .i64 (j : Int) ∧ Nodes wr (lb + 1) bi oi l j nb KA KN KC (kidsUp l j) ∧ Lasts wr lb l j nb ∧ Room wr w.heap.size (n * 1) ∧ (∀ i, i < j → wr.cell? ⟨w.heap.size, i, none⟩ = some (ptrN (nb i))) ∧ Below w.heap.size w wr) (fun i _ => n - (intOf i).toNat)
  case atStart =>
    refine ⟨0, fun _ => 0, fun _ => none, fun _ => 0, fun _ => 0, Nat.zero_le _, rfl, ⟨fun j hj => by omega, fun j hj => by omega, fun j hj => by omega, fun j hj => by omega, fun j hj => by omega, fun j hj => by omega, fun j hj => by omega, fun i j hi hj => by omega, fun i j hi => by omega, fun i j hi => by omega⟩, HL0.out, HR0.out, fun i hi => by omega, HB0.out⟩
  case round =>
    obtain ⟨j, nb, KA, KN, KC, hj, rfl, hN, hL, hR, hdone, hb⟩ := hrel
    by_cases hlt : j < n
    · have q0 : (j : Int) < (n : Int) := by omega
      have hlj : j < l.length := by have := HN.out; omega
      have hIj := (HI.out j hlj).below hb
      have KP := Lib.hid (fun W (hb : Below wr.heap.size wr W) => part_any bi oi j (l.getD j dIt) W (hIj.below hb))
      have d0 := hIj.c0
      have hdp : (l.getD j dIt).depth = dp l j := rfl
      rw [hdp] at d0
      have hbd := H.out.bd j hlj
      have HNN := Lib.hid hN
      have HLL := Lib.hid hL
      have HRR := Lib.hid hR
      have HDD := Lib.hid hdone
      have HBB := Lib.hid hb
      have hbiw : bi < wr.heap.size := hIj.lt
      have hlbw : lb < wr.heap.size := hL.1
      have hBw : lb + 1 ≤ wr.heap.size := by omega
      clear hN hL hR hdone hb hIj hdp
      have HPV : Hid (partV bi oi (l.getD j dIt) j = .iface (partTy (l.getD j dIt)) (.agg #[.pointer (some ⟨bi, oi + j * 5, none⟩)])) := Lib.hid rfl
      generalize partTy (l.getD j dIt) = tt at KP HPV
      obtain ⟨dj, hdj⟩ : ∃ dj : Nat, dp l j = (dj : Int) := ⟨(dp l j).toNat, by omega⟩
      have hd6 : dj ≤ 6 := by omega
      rw [hdj] at d0
      go_wp2_with fail
      refine (KP.out _ (Below.refl _ _)).mono ?_
      rintro e w2 ⟨rfl, rfl⟩
      go_upto_region 8 with fail
      have hN1 := HNN.out.add (by omega) 99
      rw [HPV.out] at hN1
      have N1 := Lib.hid hN1
      have L1 := Lib.hid (HLL.out.below (below1 w2 (.cells #[.iface tt (.agg #[.pointer (some ⟨bi, oi + j * 5, none⟩)]), .int .i64 (j : Int), .slice none 0 0] 99)))
      have R1 := Lib.hid (HRR.out.below (below1 w2 (.cells #[.iface tt (.agg #[.pointer (some ⟨bi, oi + j * 5, none⟩)]), .int .i64 (j : Int), .slice none 0 0] 99)))
      have D1 : Hid (∀ i, i < j → (w2.alloc (.cells #[.iface tt (.agg #[.pointer (some ⟨bi, oi + j * 5, none⟩)]), .int .i64 (j : Int), .slice none 0 0] 99)).cell? ⟨w.heap.size, i, none⟩ = some (ptrN (nb i))) := Lib.hid fun i hi => ((below1 w2 (.cells #[.iface tt (.agg #[.pointer (some ⟨bi, oi + j * 5, none⟩)]), .int .i64 (j : Int), .slice none 0 0] 99)).cell (p := ⟨w.heap.size, i, none⟩) HRR.out.1).trans (HDD.out i hi)
      have B1 := Lib.hid (HBB.out.trans ((below1 w2 (.cells #[.iface tt (.agg #[.pointer (some ⟨bi, oi + j * 5, none⟩)]), .int .i64 (j : Int), .slice none 0 0] 99)).mono HBB.out.size))
      have d0 := ((below1 w2 (.cells #[.iface tt (.agg #[.pointer (some ⟨bi, oi + j * 5, none⟩)]), .int .i64 (j : Int), .slice none 0 0] 99)).cell (p := ⟨bi, oi + j * 5, none⟩) hbiw).trans d0
      have hs1w : (w2.alloc (.cells #[.iface tt (.agg #[.pointer (some ⟨bi, oi + j * 5, none⟩)]), .int .i64 (j : Int), .slice none 0 0] 99)).heap.size = w2.heap.size + 1 := by simp
      clear hN1 HNN HLL HRR HDD HBB KP HPV
      generalize w2.alloc (.cells #[.iface tt (.agg #[.pointer (some ⟨bi, oi + j * 5, none⟩)]), .int .i64 (j : Int), .slice none 0 0] 99) = W1 at N1 L1 R1 D1 B1 d0 hs1w ⊢
      generalize hk : w2.heap.size = k at N1 hs1w hbiw hlbw ⊢
      clear hk
      have hwk : w.heap.size < k := by omega
      by_cases hz : dj = 0
      · subst hz
        obtain ⟨l0, lf0⟩ := L1.out.2 0 (by omega)
        obtain ⟨⟨v9, r9⟩, f9⟩ := R1.out.2 j (by omega)
        have hne : w.heap.size ≠ lb := by omega
        go_wp2
        go_roundw
        case rel =>
          have hL2 := L1.out.step (dm := 0) k hdj
          have ho : Only (fun i => i < lb + 1) W1 ((W1.setCell ⟨lb, 0, none⟩ (ptrN k)).setCell ⟨w.heap.size, j, none⟩ (ptrN k)) := (Only.set (P := fun i => i < lb + 1) W1 ⟨lb, 0, none⟩ _ (Nat.lt_succ_self _)).trans (Only.set (P := fun i => i < lb + 1) _ ⟨w.heap.size, j, none⟩ _ (by show w.heap.size < lb + 1; omega))
          refine ⟨j + 1, putA j k nb, putA j none KA, putA j 0 KN, putA j 0 KC, by omega, by go_num, ?_, ?_, ?_, ?_, ?_⟩
          · exact (N1.out.only ho fun i h1 h2 => by omega).congr fun i hi => kids_root hdj i hi
          · exact hL2.only (Only.set (P := fun i => i = w.heap.size) _ ⟨w.heap.size, j, none⟩ _ rfl) (fun e => hne e.symm)
          · exact (R1.out.set _ _).set _ _
          · intro i hi
            by_cases e : i = j
            · subst e
              rw [putA_at]
              exact World.cell?_setCell_same _ _ _ ((World.cell?_setCell_other _ _ _ _ (fun q => hne (congrArg Addr.block q).symm)).trans r9)
            · rw [putA_ne _ _ e, World.cell?_setCell_other _ _ _ _ (fun q => e (congrArg Addr.off q).symm), World.cell?_setCell_other _ _ _ _ (fun q => hne (congrArg Addr.block q).symm)]
              exact D1.out i (by omega)
          · exact (B1.out.setCell (by show w.heap.size ≤ lb; omega) _).setCell (Nat.le_refl _) _
        case measure => simp [intOf]; omega
      · obtain ⟨e, rfl⟩ : ∃ e, dj = e + 1 := ⟨dj - 1, by omega⟩
        have hj1 : 1 ≤ j := by
          rcases Nat.eq_zero_or_pos j with h0 | h0
          · subst h0
            have := H.out.first
            omega
          · exact h0
        obtain ⟨p, hp1, hp2, hp3, _⟩ := par_ex H.out hj1 hlj
        have hpe : dp l j - 1 = (e : Int) := by omega
        unfold parOf at hp1
        obtain ⟨l0, lf0⟩ := L1.out.2 e (by omega)
        obtain ⟨l1, lf1⟩ := L1.out.2 (e + 1) (by omega)
        rw [hpe] at hp1
        rw [hp1] at l0
        obtain ⟨⟨v9, r9⟩, f9⟩ := R1.out.2 j (by omega)
        have hne : w.heap.size ≠ lb := by omega
        have hpj : p ≠ j := by omega
        have a0 : putA j k nb p = nb p := putA_ne _ _ hpj
        have a1 : putA j none KA p = KA p := putA_ne _ _ hpj
        have a2 : putA j 0 KN p = KN p := putA_ne _ _ hpj
        have a3 : putA j 0 KC p = KC p := putA_ne _ _ hpj
        have n2 := N1.out.c2 p (by omega)
        have nf := N1.out.f2 p (by omega)
        have nl := N1.out.lt p (by omega)
        have noff := N1.out.off p p (by omega) (by omega)
        have nr0 := N1.out.row p (by omega)
        rw [a0, a1, a2, a3] at n2
        rw [a0] at nf nl
        rw [a0, a1, a2, a3] at noff
        rw [a1, a2, a3] at nr0
        have hkn : KN p ≤ 40 := by
          have h1 := nr0.1
          rw [rowN_len, putA_ne _ _ hpj] at h1
          have h2 := kidsUp_len l j p
          omega
        have nr := Lib.hid nr0
        have NO := Lib.hid noff
        have A0 := Lib.hid a0
        have A1 := Lib.hid a1
        have A2 := Lib.hid a2
        have A3 := Lib.hid a3
        replace l0 : W1.cell? ⟨lb, e, none⟩ = some (.pointer (some ⟨nb p, 0, none⟩)) := l0
        replace d0 : W1.cell? ⟨bi, oi + j * 5, none⟩ = some (.int .i64 ((e : Int) + 1)) := d0
        have he6 : (e : Int) < 7 := by omega
        have he5 : (e : Int) + 1 < 7 := by omega
        have hlb1 : lb + 1 ≤ W1.heap.size := by omega
        have HSW := Lib.hid hs1w
        clear nr0 noff a0 a1 a2 a3 l1 lf1 r9 f9 v9 hs1w
        go_wp2_with (at_builtin; refine wpList_append_own_at _ rfl _ _ 97 rfl (lb + 1) 100 i0 (.pointer none) 1 8 Tryz.underlying97 hi hz0 hz1 hz2 rfl (by decide) _ (KN p) _ rfl (nr.out.alloc _) ⟨W1.heap.size, 0, none⟩ 1 1 [.pointer (some ⟨k, 0, none⟩)] rfl rfl (fun j u hj => ptrCells W1 _ j u hj) (by intro v hv; simp at hv; subst hv; rfl) (by unfold maxLen; omega) (by omega) (by simp; omega) ?_)
        intro v' w3 hown hgr _ hat
        obtain ⟨a', c', rfl⟩ := owns_slice hown
        have hn3 : w3.cell? ⟨nb p, 2, none⟩ = some (.slice (KA p) (KN p) (KC p)) := hgr.cell (((below1 W1 (.cells #[.pointer (some ⟨k, 0, none⟩)] 100)).cell (p := ⟨nb p, 2, none⟩) nl.2).trans n2) (fun q => NO.out q.symm)
        have hf3 : w3.frozen? ⟨nb p, 2, none⟩ = false := ((Only.grown hgr).frozen (p := ⟨nb p, 2, none⟩) (by have := nl.2; simp; omega) (fun q => NO.out q.symm)).trans (((below1 W1 (.cells #[.pointer (some ⟨k, 0, none⟩)] 100)).frozen (p := ⟨nb p, 2, none⟩) nl.2).trans nf)
        have hN2 := N1.out.put (p := p) (k := j) (w0 := W1.alloc (.cells #[.pointer (some ⟨k, 0, none⟩)] 100)) (w3 := w3) (a' := a') (n' := KN p + 1) (c' := c') (by omega) (by omega) (below1 W1 _) (by rw [putA_at]; exact hown) (by rw [A1.out, A2.out, A3.out]; exact hgr) (by rw [A1.out, A2.out, A3.out]; exact hat.imp id fun q => ⟨W1.heap.size + 1, by simpa using q, by simp⟩)
        rw [A0.out] at hN2
        have ho4 : Only (fun i => lb + 1 ≤ i) W1 (w3.setCell ⟨nb p, 2, none⟩ (.slice a' (KN p + 1) c')) := ((Only.below (below1 W1 (.cells #[.pointer (some ⟨k, 0, none⟩)] 100))).trans ((Only.grown hgr).mono fun i q => (nr.out.lt i q.symm).1)).trans (Only.set _ _ _ nl.1)
        have N2 := Lib.hid hN2
        have HO4 := Lib.hid ho4
        have hb4 := Only.under B1.out (Nat.le_refl _) ho4 (fun i q => by omega)
        have hd4 := (ho4.cell (p := ⟨bi, oi + j * 5, none⟩) (by have := HSW.out; show bi < _; omega) (by show ¬ (lb + 1 ≤ bi); omega)).trans d0
        have L4 := Lib.hid (L1.out.only ho4 (by omega))
        have R4 := Lib.hid (R1.out.only ho4 (by omega))
        have D4 : Hid (∀ i, i < j → (w3.setCell ⟨nb p, 2, none⟩ (.slice a' (KN p + 1) c')).cell? ⟨w.heap.size, i, none⟩ = some (ptrN (nb i))) := Lib.hid fun i hi => (ho4.cell (p := ⟨w.heap.size, i, none⟩) R1.out.1 (by show ¬ (lb + 1 ≤ w.heap.size); omega)).trans (D1.out i hi)
        have B4 := Lib.hid hb4
        have h34 : w3.heap.size = (w3.setCell ⟨nb p, 2, none⟩ (.slice a' (KN p + 1) c')).heap.size := by simp
        have hbi4 : bi < (w3.setCell ⟨nb p, 2, none⟩ (.slice a' (KN p + 1) c')).heap.size := World.block_lt_of_cell? _ _ hd4
        clear hown hgr hat hN2 ho4 hb4 n2 nf nr NO A0 A1 A2 A3 N1 L1 R1 D1 B1 d0 l0
        go_upto_region 11 with fail
        generalize w3.setCell ⟨nb p, 2, none⟩ (.slice a' (KN p + 1) c') = W4 at N2 HO4 hd4 L4 R4 D4 B4 h34 hbi4 ⊢
        clear hn3 hf3 h34 nl
        obtain ⟨l1, lf1⟩ := L4.out.2 (e + 1) (by omega)
        obtain ⟨⟨v9, r9⟩, f9⟩ := R4.out.2 j (by omega)
        go_wp2
        go_roundw
        case rel =>
          have hL2 := L4.out.step (dm := e + 1) k hdj
          have ho : Only (fun i => i < lb + 1) W4 ((W4.setCell ⟨lb, e + 1, none⟩ (ptrN k)).setCell ⟨w.heap.size, j, none⟩ (ptrN k)) := (Only.set (P := fun i => i < lb + 1) W4 ⟨lb, e + 1, none⟩ _ (Nat.lt_succ_self _)).trans (Only.set (P := fun i => i < lb + 1) _ ⟨w.heap.size, j, none⟩ _ (by show w.heap.size < lb + 1; omega))
          refine ⟨j + 1, putA j k nb, putA p a' (putA j none KA), putA p (KN p + 1) (putA j 0 KN), putA p c' (putA j 0 KC), by omega, by go_num, ?_, ?_, ?_, ?_, ?_⟩
          · exact (N2.out.only ho fun i h1 h2 => by omega).congr fun i hi => kids_under (by omega) (by unfold parOf; rw [hpe]; exact hp1) hp2 i hi
          · exact hL2.only (Only.set (P := fun i => i = w.heap.size) _ ⟨w.heap.size, j, none⟩ _ rfl) (fun e => hne e.symm)
          · exact (R4.out.set _ _).set _ _
          · intro i hi
            by_cases e : i = j
            · subst e
              rw [putA_at]
              exact World.cell?_setCell_same _ _ _ ((World.cell?_setCell_other _ _ _ _ (fun q => hne (congrArg Addr.block q).symm)).trans r9)
            · rw [putA_ne _ _ e, World.cell?_setCell_other _ _ _ _ (fun q => e (congrArg Addr.off q).symm), World.cell?_setCell_other _ _ _ _ (fun q => hne (congrArg Addr.block q).symm)]
              exact D4.out i (by omega)
          · exact (B4.out.setCell (by show w.heap.size ≤ lb; omega) _).setCell (Nat.le_refl _) _
        case measure => simp [intOf]; omega
    · obtain rfl : j = n := by omega
      have HNN := Lib.hid hN
      have HDD := Lib.hid hdone
      have HBB := Lib.hid hb
      clear hN hL hR hdone hb
      go_wp2
      go_ret
      exact ⟨w.heap.size, lb + 1, nb, KA, KN, KC, rfl, Nat.le_refl _, by omega, HNN.out, fun i hi => HDD.out i hi, HBB.out⟩
end Go.Proofs.YtjkmgpomcnplnaaGreatDoor
