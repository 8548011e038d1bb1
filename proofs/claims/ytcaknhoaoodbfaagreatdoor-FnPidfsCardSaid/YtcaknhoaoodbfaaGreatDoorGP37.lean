/- impl.PidfOf. -/
import Derived.Test.YtcaknhoaoodbfaaGreatDoorGP33
import Derived.Test.YtcaknhoaoodbfaaGreatDoorGP36
import Derived.Test.YtcaknhoaoodbfaaGreatDoorGP20
import Derived.Test.YtcaknhoaoodbfaaGreatDoorGP14
import Derived.Test.YtcaknhoaoodbfaaGreatDoorGP23
import Derived.Test.YtcaknhoaoodbfaaGreatDoorGP29
import Derived.Deep.RegionHeld3
import Derived.Deep.DeepCutAuto
import Derived.Test.YtcaknhoaoodbfaaGreatDoorGP0
import Derived.Test.YtcaknhoaoodbfaaGreatDoorGP34
import Derived.Test.YtcaknhoaoodbfaaGreatDoorGP28
import Derived.WalkMore
namespace Go.Proofs.YtcaknhoaoodbfaaGreatDoor
open Go.ChangeShapes Go.WideShapes Go.ChangeAt Go.RowKit
set_option linter.unusedVariables false
set_option maxRecDepth 100000 in
set_option maxHeartbeats 3200000 in
theorem implPidfOf_any (p : Pr) (a : Option Addr) (n c lo hi : Nat) (w : World) (hT : Tabs w) (hPw : Pows w) (hs : SmallPr p) (h : OwnIts w lo hi a n c p.more) :
    Calls Tryz.prog 31 #[.agg #[.int .i64 p.kind, .string p.sender, .string p.goal, .int .i64 p.shown, .string p.status, .int .i64 p.prio, .slice a n c]] w (TreeOwn w (projCode p) (pidfT p)) := by
  have P0 := Lib.hid ((PrAt.new w 26 p a n c).below (below1 _ (.cells #[.int .i64 0, .slice none 0 0] 29)))
  have K0 := Lib.hid (fun W (hb : Below w.heap.size w W) => implProjectionOf_any p a n c lo hi W (tabs_kept hT hb) hs (h.below hb))
  have hq := projT_small hs
  have HW := Lib.hid (fun h0 i hi => pidf_wide p hs h0 i hi)
  have HLN := Lib.hid (pidf_len p)
  have HPW := Lib.hid (fun W (hb : Below w.heap.size w W) => hPw.below hb)
  have HGQ := Lib.hid (projT_good p)
  unfold TreeOwn
  unfold PrrOwn at K0
  clear hs h hT hPw
  by_cases hcd : projCode p = 0
  · have hpt : pidfT p = pidfL (projT p) := by unfold pidfT projT; rw [if_pos hcd, if_pos hcd]
    rw [hpt] at HW HLN ⊢
    rw [hcd] at K0 ⊢
    have HW := Lib.hid (fun i hi => HW.out hcd i hi)
    clear hpt
    clear hcd
    obtain ⟨pk, pf, pt, ps, pu, pp, pm⟩ := p
    generalize projT ⟨pk, pf, pt, ps, pu, pp, pm⟩ = q at K0 hq HW HLN HGQ ⊢
    have KT := Lib.hid (fun W (hP : Pows W) x m k => pidfItems_any q x m k W hq HGQ.out.1 HGQ.out.2 hP)
    unfold GrewRes at KT
    clear HGQ
    generalize pidfL q = L at KT HW HLN ⊢
    obtain ⟨qk, qf, qt, qs, qu, qp, qm⟩ := q
    dsimp only at K0 P0 hq KT
    have d0 := P0.out.c0
    have d1 := P0.out.c1
    have d2 := P0.out.c2
    have d3 := P0.out.c3
    have d4 := P0.out.c4
    have d5 := P0.out.c5
    have d6 := P0.out.c6
    go_enter Tryz.func31, Tryz.ntmps31
    go_wp2_with fail
    refine (K0.out _ (below2 _ _ _)).mono ?_
    rintro e w1 ⟨a1, n1, c1, rfl, h1, hb⟩
    have HB1 := Lib.hid hb
    have hz1 := hb.size
    simp at hz1
    clear h1 d0 d1 d2 d3 d4 d5 d6 hb
    go_wp2_with fail
    refine (KT.out _ (HPW.out _ (below_then (below_then (below2 w _ _) HB1.out) (below1 _ _))) _ _ _).mono ?_
    rintro e w2 ⟨a2, n2, c2, A2, N2, C2, rfl, hg, hb2⟩
    have hlen := hg.len
    have hn2 : n2 ≤ 11 := by have := HLN.out; omega
    have own2 := Lib.hid (hg.own (by omega) (fun i hi => HW.out i (by omega)))
    have hb := below_then (below_then HB1.out (below1 w1 (.cells #[.int .i64 0, .int .i64 qk, .string qf, .string qt, .int .i64 qs, .string qu, .int .i64 qp, .slice a1 n1 c1] 33))) hb2
    obtain ⟨hc, hf⟩ := bcell hb
    have hz2 : w1.heap.size + 1 ≤ w2.heap.size := by have := hb2.size; simpa using this
    have HB := Lib.hid hb
    have hz := hb.size
    simp at hz
    clear hg hlen hb2 hb
    go_wp2
    refine bodyPost_ret (v := .agg #[.int .i64 0, .slice a2 n2 c2]) (by simp [results, Tryz.results31, go_sem, hc]) rfl ⟨_, _, _, rfl, ?_, ?_⟩
    · have st : ∀ (W : World) (i : Nat) (v : Value), OwnIts W (w1.heap.size + 1) w2.heap.size a2 n2 c2 L → OwnIts (W.setCell ⟨w.heap.size + 1, i, none⟩ v) (w1.heap.size + 1) w2.heap.size a2 n2 c2 L := fun W i v h =>
        h.only (Only.set (P := fun i => i = w.heap.size + 1) W ⟨w.heap.size + 1, i, none⟩ v rfl) fun i hlo hhi he => by omega
      have h0 := own2.out
      rw [show ∀ o, (w1.alloc o).heap.size = w1.heap.size + 1 from fun o => by simp] at h0
      exact (st _ 1 _ (st _ 0 _ h0)).mono (by omega) (by simp)
    · exact (((below_then (below2 w _ _) HB.out).setCell (by simp) _).setCell (by simp) _)
  · have hpt : pidfT p = [] := by unfold pidfT; rw [if_neg hcd]
    rw [hpt]
    generalize projCode p = cd at K0 hcd ⊢
    generalize projT p = q at K0
    have q1 : (cd != 0) = true := by rw [bne_iff_ne]; exact hcd
    clear hcd hpt HW HLN hq
    obtain ⟨pk, pf, pt, ps, pu, pp, pm⟩ := p
    obtain ⟨qk, qf, qt, qs, qu, qp, qm⟩ := q
    dsimp only at K0 P0
    have d0 := P0.out.c0
    have d1 := P0.out.c1
    have d2 := P0.out.c2
    have d3 := P0.out.c3
    have d4 := P0.out.c4
    have d5 := P0.out.c5
    have d6 := P0.out.c6
    go_enter Tryz.func31, Tryz.ntmps31
    go_wp2_with fail
    refine (K0.out _ (below2 _ _ _)).mono ?_
    rintro e w1 ⟨a1, n1, c1, rfl, h1, hb⟩
    have hb := below_then hb (below1 w1 (.cells #[.int .i64 cd, .int .i64 qk, .string qf, .string qt, .int .i64 qs, .string qu, .int .i64 qp, .slice a1 n1 c1] 33))
    obtain ⟨hc, hf⟩ := bcell hb
    have HB := Lib.hid hb
    have hz := hb.size
    simp at hz
    clear h1 d0 d1 d2 d3 d4 d5 d6 hb
    go_wp2
    refine bodyPost_ret (v := .agg #[.int .i64 cd, .slice none 0 0]) (by simp [results, Tryz.results31, go_sem, hc]) rfl ⟨_, _, _, rfl, ⟨rfl, by omega, fun i hi => by omega, .inl rfl⟩, ?_⟩
    exact (((below_then (below2 w _ _) HB.out).setCell (by simp) _).setCell (by simp) _)
def RootRes (w0 : World) (pb : Nat) (a : Option Addr) (n c : Nat) (r : Option Pr) (e : Ending) (w' : World) : Prop :=
  ∃ (bb : Bool) (q : Pr), e = .returned (.bool bb) ∧ PrMut w0 w' pb q a n c ∧ (bb = true → r = some q) ∧ (bb = false → r = none)
def PartRes (w0 w : World) (pb : Nat) (a : Option Addr) (n c : Nat) (r : Option Pr) (e : Ending) (w' : World) : Prop :=
  ∃ (bb : Bool) (q : Pr), e = .returned (.bool bb) ∧ PrMut w0 w' pb q a n c ∧ Only (fun i => i = pb) w w' ∧ (bb = true → r = some q) ∧ (bb = false → r = none)
set_option maxHeartbeats 1600000 in
theorem implIndex_any (v : Value) (ts : List ByteArray) (t : ByteArray) (w : World) (h : RowS w v ts) :
    Calls Tryz.prog 149 #[v, .string t] w fun e w' => e = .returned (.int .i64 (hasIx ts t)) ∧ ∃ n, w' = w.drewN n := by
  have hle := List.findIdx_le_length (xs := ts) (p := fun x => x.toList == t.toList)
  have hat : ∀ h : ts.findIdx (fun x => x.toList == t.toList) < ts.length, ((ts.getD (ts.findIdx (fun x => x.toList == t.toList)) ByteArray.empty).toList == t.toList) = true := fun h => by
    have := List.findIdx_getElem (xs := ts) (p := fun x => x.toList == t.toList) (w := h)
    rw [List.getD_eq_getElem?_getD, List.getElem?_eq_getElem h]
    exact this
  have hlt : ∀ j, j < ts.findIdx (fun x => x.toList == t.toList) → j < ts.length → ((ts.getD j ByteArray.empty).toList == t.toList) = false := fun j hj hl => by
    have := List.not_of_lt_findIdx (xs := ts) (p := fun x => x.toList == t.toList) hj
    rw [List.getD_eq_getElem?_getD, List.getElem?_eq_getElem hl]
    simpa using this
  unfold hasIx
  generalize hm : ts.findIdx (fun x => x.toList == t.toList) = m at hle hat hlt ⊢
  generalize hr : (if m < ts.length then (m : Int) else -1) = r
  have HR := Lib.hid hr
  have HAT := Lib.hid hat
  have HLT := Lib.hid hlt
  clear hr hat hlt hm
  rcases h with ⟨rfl, rfl⟩ | ⟨b, o, cap, rfl, hc, hmx, hb, hx⟩
  · have hr : r = -1 := by rw [← HR.out]; simp
    subst hr
    go_enter Tryz.func149, Tryz.ntmps149
    go_wp2
    go_loop [8] (fun i => i = .int .i64 0) (fun _ => 0)
    case atStart => rfl
    case round =>
      subst hrel
      go_wp2
      go_ret
      exact ⟨rfl, 0, rfl⟩
  · have HX := Lib.hid hx
    unfold maxLen at hmx
    clear hx
    go_enter Tryz.func149, Tryz.ntmps149
    go_wp2
    go_loopw [8] (fun i wr => ∃ k : Nat, k ≤ m ∧ i = .int .i64 k ∧ ∃ n, wr = w.drewN n) (fun i _ => ts.length - (intOf i).toNat)
    case atStart => exact ⟨0, Nat.zero_le _, rfl, 0, rfl⟩
    case round =>
      obtain ⟨k, hk, rfl, nd, rfl⟩ := hrel
      by_cases hkl : k < ts.length
      · have d1 := HX.out k hkl
        have k1 : (k : Int) < (ts.length : Int) := by omega
        by_cases hkm : k < m
        · have he := HLT.out k hkm hkl
          generalize ts.getD k ByteArray.empty = x at d1 he
          have he2 : (t.toList == x.toList) = false := by rw [beq_eq_false_iff_ne] at he ⊢; exact he.symm
          go_wp2
          go_roundw
          case rel => exact ⟨k + 1, by omega, by go_num, _, rfl⟩
          case measure => simp [intOf]; omega
        · obtain rfl : k = m := by omega
          have he := HAT.out hkl
          have hr : r = (k : Int) := by rw [← HR.out, if_pos hkl]
          subst hr
          generalize ts.getD k ByteArray.empty = x at d1 he
          have he2 : (t.toList == x.toList) = true := by rw [beq_iff_eq] at he ⊢; exact he.symm
          go_wp2
          go_ret
          exact ⟨rfl, _, rfl⟩
      · have hr : r = -1 := by rw [← HR.out, if_neg (by omega)]
        subst hr
        obtain rfl : k = ts.length := by omega
        go_wp2
        go_ret
        exact ⟨rfl, _, rfl⟩
theorem actWords_row (w : World) : Calls Tryz.prog 145 #[] w fun e w' =>
    e = .returned (.slice (some ⟨w.heap.size, 0, none⟩) 4 4) ∧ Below w.heap.size w w' ∧ w.heap.size < w'.heap.size ∧ ∀ i, i < 4 → w'.cell? ⟨w.heap.size, i, none⟩ = some (.string (actWs.getD i ByteArray.empty)) := by
  go_enter Tryz.func145, Tryz.ntmps145
  go_wp2
  go_ret
  refine ⟨rfl, below1 _ _, by simp, fun i hi => ?_⟩
  match i, hi with
  | 0, _ => simp [actWs]
  | 1, _ => simp [actWs, awayNm]
  | 2, _ => simp [actWs]
  | 3, _ => simp [actWs, busyNm]
theorem hasIx_hit {ts : List ByteArray} {t : ByteArray} {k : Nat} (hk : k < ts.length) (h0 : ∀ j, j < k → ((ts.getD j ByteArray.empty).toList == t.toList) = false) (h1 : ((ts.getD k ByteArray.empty).toList == t.toList) = true) : hasIx ts t = (k : Int) := by
  have e : ts.findIdx (fun x => x.toList == t.toList) = k := by
    rw [List.findIdx_eq hk]
    refine ⟨?_, fun j hj => ?_⟩
    · rw [List.getD_eq_getElem?_getD, List.getElem?_eq_getElem hk] at h1
      exact h1
    · have := h0 j hj
      rw [List.getD_eq_getElem?_getD, List.getElem?_eq_getElem (by omega)] at this
      exact this
  unfold hasIx
  rw [e, if_pos hk]
theorem hasIx_miss {ts : List ByteArray} {t : ByteArray} (h0 : ∀ j, j < ts.length → ((ts.getD j ByteArray.empty).toList == t.toList) = false) : hasIx ts t = -1 := by
  have e : ts.findIdx (fun x => x.toList == t.toList) = ts.length := by
    rw [List.findIdx_eq_length]
    intro x hx
    obtain ⟨j, hj, rfl⟩ := List.getElem_of_mem hx
    have := h0 j hj
    rw [List.getD_eq_getElem?_getD, List.getElem?_eq_getElem hj] at this
    exact this
  unfold hasIx
  rw [e, if_neg (Nat.lt_irrefl _)]
theorem showIx_hit {l : List It} {i k : Nat} (hk : k < (kidsUp l l.length i).length) (h0 : ∀ j, j < k → hasIx actWs (l.getD ((kidsUp l l.length i).getD j 0) dIt).name < 0) (h1 : 0 ≤ hasIx actWs (l.getD ((kidsUp l l.length i).getD k 0) dIt).name) : showIx l i = hasIx actWs (l.getD ((kidsUp l l.length i).getD k 0) dIt).name := by
  unfold showIx
  rw [find_at (kidsUp l l.length i) 0 _ k hk (fun j hj => by simpa using h0 j hj) (by simpa using h1)]
theorem showIx_miss {l : List It} {i : Nat} (h0 : ∀ j, j < (kidsUp l l.length i).length → hasIx actWs (l.getD ((kidsUp l l.length i).getD j 0) dIt).name < 0) : showIx l i = 0 := by
  unfold showIx
  rw [find_no (kidsUp l l.length i) 0 _ (fun j hj => by simpa using h0 j hj)]
theorem field_list (c : Int) (a : Option Addr) (n k : Nat) (W : World) : (Instr.field 225 (.agg #[.int .i64 c, .slice a n k]) 1).run Tryz.prog W = .ok (.slice a n k) W := by kernel_rfl
set_option maxRecDepth 100000 in
set_option maxHeartbeats 3200000 in
theorem showIn_any (bi oi n c k : Nat) (l : List It) (w : World) (hT : Tabs w) (h : ItsAt w (some ⟨bi, oi, none⟩) n c l) (hc : treeCode l = 0) (hk : k < n) :
    Calls Tryz.prog 150 #[.slice (some ⟨bi, oi, none⟩) n c, .int .i64 (k : Int)] w fun e w' => e = .returned (.int .i64 (showIx l k)) ∧ Below w.heap.size w w' := by
  have hl := h.len
  have KK := Lib.hid (implKidsOf_any bi oi n c k l w hT h hc hk)
  unfold IntsRes at KK
  obtain ⟨b0, o0, e0, hI⟩ := h.row.resolve_left (by omega)
  cases e0
  have hbi : bi < w.heap.size := (hI k hk).lt
  have HI := Lib.hid hI
  have hn40 : n ≤ 40 := by have := (rises_of hc).few; omega
  have hkl : ∀ j, j < (kidsUp l l.length k).length → (kidsUp l l.length k).getD j 0 < n := fun j hj => by
    rw [List.getD_eq_getElem?_getD, List.getElem?_eq_getElem hj]
    have := kidsUp_lt (List.getElem_mem hj)
    simp only [Option.getD_some]
    omega
  have HKL := Lib.hid hkl
  have hk40 : (kidsUp l l.length k).length ≤ 40 := by have h1 := kidsUp_len l l.length k; omega
  have HHIT := Lib.hid (fun j hj h0 h1 => showIx_hit (l := l) (i := k) (k := j) hj h0 h1)
  have HMISS := Lib.hid (showIx_miss (l := l) (i := k))
  generalize showIx l k = r at HHIT HMISS ⊢
  generalize kidsUp l l.length k = ks at KK HKL HHIT HMISS hk40
  have fl := fun a n q W => field_list 0 a n q W
  clear h hT hI hkl hc
  go_enter Tryz.func150, Tryz.ntmps150
  go_wp2
  go_step3
  go_wp2
  go_step3
  go_wp2_with fail
  refine KK.out.mono ?_
  rintro e w1 ⟨ka, m, kc, rfl, ho1, hb1⟩
  have hm := ho1.1
  simp only [List.length_map, Nat.mul_one] at hm
  have HO1 := Lib.hid ho1
  have HB1 := Lib.hid hb1
  have hm40 : m ≤ 40 := by omega
  have HMM := Lib.hid hm
  clear ho1 hb1 KK hm hk40
  go_wp2
  go_loopw [5, 15] (fun f i wr => ∃ j : Nat, f = .int .i64 0 ∧ i = .int .i64 (j : Int) ∧ j ≤ m ∧ (∀ i, i < j → hasIx actWs (l.getD (ks.getD i 0) dIt).name < 0) ∧ Below w1.heap.size w1 wr) (fun _ i _ => m - (intOf i).toNat)
  case atStart => exact ⟨0, rfl, rfl, Nat.zero_le _, fun i hi => by omega, Below.refl _ _⟩
  case round =>
    obtain ⟨j, rfl, rfl, hj, hno, hb⟩ := hrel
    have HNO := Lib.hid hno
    have HB := Lib.hid hb
    clear hno hb
    by_cases hjm : j < m
    · obtain ⟨g, rfl⟩ : ∃ g, ka = some ⟨g, 0, none⟩ := by
        rcases HO1.out.2 with ⟨hv, h0⟩ | ⟨g, cap, cur, hv, _⟩
        · omega
        · simp only [Value.slice.injEq] at hv
          exact ⟨_, hv.1⟩
      have hjl : j < ks.length := by have := HMM.out; omega
      have hcx := HO1.out.cellAt j (by omega)
      rw [List.getElem?_map, List.getElem?_map, List.getElem?_eq_getElem hjl, Option.map_some, Option.map_some] at hcx
      have hgx : ks.getD j 0 = ks[j] := by rw [List.getD_eq_getElem?_getD, List.getElem?_eq_getElem hjl]; rfl
      rw [← hgx] at hcx
      have hgl : g < w1.heap.size := (HO1.out.lt g rfl).2
      have hx := HKL.out j hjl
      have d0 := (HB.out.cell (p := ⟨g, j, none⟩) hgl).trans hcx
      have q0 : (j : Int) < (m : Int) := by omega
      have HH := Lib.hid (fun (hh : 0 ≤ hasIx actWs (l.getD (ks.getD j 0) dIt).name) => HHIT.out j hjl HNO.out hh)
      have HNX := Lib.hid (fun (hh : hasIx actWs (l.getD (ks.getD j 0) dIt).name < 0) (i : Nat) (hi : i < j + 1) => (by
        rcases Nat.lt_or_ge i j with h | h
        · exact HNO.out i h
        · obtain rfl : i = j := by omega
          exact hh : hasIx actWs (l.getD (ks.getD i 0) dIt).name < 0))
      have hit := (HI.out (ks.getD j 0) hx).below (HB1.out.trans (HB.out.mono HB1.out.size))
      have c3 := hit.c3
      have hbir : bi < wr.heap.size := hit.lt
      clear hcx hgx hit HNO
      generalize ks.getD j 0 = x at d0 HH HNX c3 hx
      obtain ⟨nm, hnm⟩ : ∃ nm, (l.getD x dIt).name = nm := ⟨_, rfl⟩
      rw [hnm] at HH HNX c3
      have hxi : (x : Int) < (n : Int) := by omega
      clear hnm
      go_wp2_with fail
      refine (actWords_row _).mono ?_
      rintro e w2 ⟨rfl, hb2, hz2, hrow⟩
      have HB2 := Lib.hid (HB.out.trans (hb2.mono HB.out.size))
      have HROW := Lib.hid hrow
      have c3 := (hb2.cell (p := ⟨bi, oi + x * 5 + 3, none⟩) hbir).trans c3
      have HC3 := Lib.hid c3
      have hbi2 : bi < w2.heap.size := by have := hb2.size; omega
      clear hb2 hrow d0
      go_wp2
      go_loopw [5, 21] (fun f i wq => ∃ q : Nat, f = .int .i64 0 ∧ i = .int .i64 (q : Int) ∧ q ≤ 4 ∧ (∀ i, i < q → ((actWs.getD i ByteArray.empty).toList == nm.toList) = false) ∧ wq = w2) (fun _ i _ => 4 - (intOf i).toNat)
      case atStart => exact ⟨0, rfl, rfl, Nat.zero_le _, fun i hi => by omega, rfl⟩
      case round =>
        obtain ⟨q, rfl, rfl, hq, hnq, rfl⟩ := hrel
        have HNQ := Lib.hid hnq
        clear hnq
        by_cases hq4 : q < 4
        · have dw := HROW.out q hq4
          have q1 : (q : Int) < 4 := by omega
          have c3 := HC3.out
          have HE : Hid (((actWs.getD q ByteArray.empty).toList == nm.toList) = true → r = (q : Int)) := Lib.hid fun h => by
            have e := hasIx_hit (ts := actWs) (t := nm) (k := q) hq4 HNQ.out h
            rw [HH.out (by rw [e]; omega), e]
          have HNE : Hid (((actWs.getD q ByteArray.empty).toList == nm.toList) = false → ∀ i, i < q + 1 → ((actWs.getD i ByteArray.empty).toList == nm.toList) = false) := Lib.hid fun h i hi => by
            rcases Nat.lt_or_ge i q with h1 | h1
            · exact HNQ.out i h1
            · obtain rfl : i = q := by omega
              exact h
          generalize actWs.getD q ByteArray.empty = wd at dw HE HNE
          cases hw : wd.toList == nm.toList
          · have HN2 := Lib.hid (HNE.out hw)
            clear HE HNE
            go_wp2
            go_roundw
            case rel => exact ⟨q + 1, rfl, by go_num, by omega, HN2.out, by first | rfl | trivial⟩
            case measure => simp [intOf]; omega
          · obtain rfl := HE.out hw
            clear HNE
            go_wp2
            go_ret
            exact ⟨rfl, HB1.out.trans (HB2.out.mono HB1.out.size)⟩
        · obtain rfl : q = 4 := by omega
          have HN3 := Lib.hid (HNX.out (by rw [hasIx_miss (fun j hj => HNQ.out j hj)]; decide))
          go_wp2
          go_roundw
          case rel => exact ⟨j + 1, rfl, by go_num, by omega, HN3.out, HB2.out⟩
          case measure => simp [intOf]; omega
    · obtain rfl : j = m := by omega
      have hr := HMISS.out (fun i hi => HNO.out i (by have := HMM.out; omega))
      subst hr
      go_wp2
      go_ret
      exact ⟨rfl, HB1.out.trans (HB.out.mono HB1.out.size)⟩
end Go.Proofs.YtcaknhoaoodbfaaGreatDoor
