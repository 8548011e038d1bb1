/- The program's small readings: a word's place, and the methods that read one text. -/
import Derived.Test.YticpebpicdboaaaGreatDoorGY33
import Derived.Test.YticpebpicdboaaaGreatDoorGY37
import Derived.Test.YticpebpicdboaaaGreatDoorGY19
import Derived.Test.YticpebpicdboaaaGreatDoorGY25
import Derived.Test.YticpebpicdboaaaGreatDoorGY26
import Derived.WalkMore
import Derived.Test.YticpebpicdboaaaGreatDoorGY35
import Derived.Test.YticpebpicdboaaaGreatDoorGY9
namespace Go.Proofs.YticpebpicdboaaaGreatDoor
open Go.ChangeShapes Go.WideShapes Go.ChangeAt Go.RowKit
set_option linter.unusedVariables false

set_option maxHeartbeats 1600000 in
theorem implIndex_any (v : Value) (ts : List ByteArray) (t : ByteArray) (w : World) (h : RowS w v ts) :
    Calls Tryz.prog 175 #[v, .string t] w fun e w' => e = .returned (.int .i64 (hasIx ts t)) ∧ ∃ n, w' = w.drewN n := by
  have hle := List.findIdx_le_length (xs := ts) (p := fun x => x.toList == t.toList)
  have hat : ∀ h : ts.findIdx (fun x => x.toList == t.toList) < ts.length, ((ts.getD (ts.findIdx (fun x => x.toList == t.toList)) ByteArray.empty).toList == t.toList) = true := fun h => by
    have := List.findIdx_getElem (xs := ts) (p := fun x => x.toList == t.toList) (w := h)
    rw [List.getD_eq_getElem?_getD, List.getElem?_eq_getElem h]
    exact this
  have hlt : ∀ j, j < ts.findIdx (fun x => x.toList == t.toList) → j < ts.length → ((ts.getD j ByteArray.empty).toList == t.toList) = false := fun j hj hl => by
    have := List.not_of_lt_findIdx (xs := ts) (p := fun x => x.toList == t.toList) hj
    rw [List.getD_eq_getElem?_getD, List.getElem?_eq_getElem hl]
    simpa using this
  unfold hasIx
  generalize hm : ts.findIdx (fun x => x.toList == t.toList) = m at hle hat hlt ⊢
  generalize hr : (if m < ts.length then (m : Int) else -1) = r
  have HR := Lib.hid hr
  have HAT := Lib.hid hat
  have HLT := Lib.hid hlt
  clear hr hat hlt hm
  rcases h with ⟨rfl, rfl⟩ | ⟨b, o, cap, rfl, hc, hmx, hb, hx⟩
  · have hr : r = -1 := by rw [← HR.out]; simp
    subst hr
    go_enter Tryz.func175, Tryz.ntmps175
    go_wp2
    go_loop [8] (fun i => i = .int .i64 0) (fun _ => 0)
    case atStart => rfl
    case round =>
      subst hrel
      go_wp2
      go_ret
      exact ⟨rfl, 0, rfl⟩
  · have HX := Lib.hid hx
    unfold maxLen at hmx
    clear hx
    go_enter Tryz.func175, Tryz.ntmps175
    go_wp2
    go_loopw [8] (fun i wr => ∃ k : Nat, k ≤ m ∧ i = .int .i64 k ∧ ∃ n, wr = w.drewN n) (fun i _ => ts.length - (intOf i).toNat)
    case atStart => exact ⟨0, Nat.zero_le _, rfl, 0, rfl⟩
    case round =>
      obtain ⟨k, hk, rfl, nd, rfl⟩ := hrel
      by_cases hkl : k < ts.length
      · have d1 := HX.out k hkl
        have k1 : (k : Int) < (ts.length : Int) := by omega
        by_cases hkm : k < m
        · have he := HLT.out k hkm hkl
          generalize ts.getD k ByteArray.empty = x at d1 he
          have he2 : (t.toList == x.toList) = false := by rw [beq_eq_false_iff_ne] at he ⊢; exact he.symm
          go_wp2
          go_roundw
          case rel => exact ⟨k + 1, by omega, by go_num, _, rfl⟩
          case measure => simp [intOf]; omega
        · obtain rfl : k = m := by omega
          have he := HAT.out hkl
          have hr : r = (k : Int) := by rw [← HR.out, if_pos hkl]
          subst hr
          generalize ts.getD k ByteArray.empty = x at d1 he
          have he2 : (t.toList == x.toList) = true := by rw [beq_iff_eq] at he ⊢; exact he.symm
          go_wp2
          go_ret
          exact ⟨rfl, _, rfl⟩
      · have hr : r = -1 := by rw [← HR.out, if_neg (by omega)]
        subst hr
        obtain rfl : k = ts.length := by omega
        go_wp2
        go_ret
        exact ⟨rfl, _, rfl⟩

theorem placeOfWord_any (v : Value) (ts : List ByteArray) (t : ByteArray) (w : World) (h : RowS w v ts) :
    Calls Tryz.prog 228 #[v, .string t] w fun e w' => e = .returned (.tuple #[.int .i64 (hasIx ts t), .bool (decide (0 < hasIx ts t))]) ∧ ∃ n, w' = w.drewN n := by
  have K := Lib.hid (implIndex_any v ts t w h)
  generalize hasIx ts t = ix at K
  clear h
  go_enter Tryz.func228, Tryz.ntmps228
  go_wp2_with fail
  refine K.out.mono ?_
  rintro e w1 ⟨rfl, nd, rfl⟩
  go_wp2
  go_ret2
  exact ⟨rfl, nd, rfl⟩

theorem readFrom_any (pb : Nat) (p : Pr) (a : Option Addr) (n c : Nat) (t : ByteArray) (w0 w : World) (h : PrMut w0 w pb p a n c) :
    Calls Tryz.prog 143 #[.pointer (some ⟨pb, 0, none⟩), .string t] w (PartRes w0 w pb a n c (some { p with sender := t })) := by
  have z := h.is.c1
  have y := h.fz 1
  have H := Lib.hid h
  clear h
  go_enter Tryz.func143, Tryz.ntmps143
  go_wp2
  go_ret
  exact ⟨true, _, rfl, H.out.setSender t, Only.set (P := fun i => i = pb) _ ⟨pb, 1, none⟩ _ rfl, fun _ => rfl, by simp⟩
theorem readTo_any (pb : Nat) (p : Pr) (a : Option Addr) (n c : Nat) (t : ByteArray) (w0 w : World) (h : PrMut w0 w pb p a n c) :
    Calls Tryz.prog 144 #[.pointer (some ⟨pb, 0, none⟩), .string t] w (PartRes w0 w pb a n c (some { p with goal := t })) := by
  have z := h.is.c2
  have y := h.fz 2
  have H := Lib.hid h
  clear h
  go_enter Tryz.func144, Tryz.ntmps144
  go_wp2
  go_ret
  exact ⟨true, _, rfl, H.out.setGoal t, Only.set (P := fun i => i = pb) _ ⟨pb, 2, none⟩ _ rfl, fun _ => rfl, by simp⟩
theorem readStatus_any (pb : Nat) (p : Pr) (a : Option Addr) (n c : Nat) (t : ByteArray) (w0 w : World) (h : PrMut w0 w pb p a n c) :
    Calls Tryz.prog 148 #[.pointer (some ⟨pb, 0, none⟩), .string t] w (PartRes w0 w pb a n c (some { p with status := t })) := by
  have z := h.is.c4
  have y := h.fz 4
  have H := Lib.hid h
  clear h
  go_enter Tryz.func148, Tryz.ntmps148
  go_wp2
  go_ret
  exact ⟨true, _, rfl, H.out.setStatus t, Only.set (P := fun i => i = pb) _ ⟨pb, 4, none⟩ _ rfl, fun _ => rfl, by simp⟩
set_option maxHeartbeats 800000 in
theorem readType_any (pb : Nat) (p : Pr) (a : Option Addr) (n c : Nat) (t : ByteArray) (w0 w : World) (h : PrMut w0 w pb p a n c) :
    Calls Tryz.prog 145 #[.pointer (some ⟨pb, 0, none⟩), .string t] w (PartRes w0 w pb a n c (if hasIx kindWs t < 1 then none else some { p with kind := hasIx kindWs t })) := by
  have H := Lib.hid h
  clear h
  have KI := Lib.hid (fun v W (h : RowS W v kindWs) => placeOfWord_any v kindWs t W h)
  generalize hasIx kindWs t = ix at KI ⊢
  obtain ⟨r, hrr⟩ : ∃ r, (if ix < 1 then none else some { p with kind := ix }) = r := ⟨_, rfl⟩
  rw [hrr]
  have HRR := Lib.hid hrr
  clear hrr
  go_enter Tryz.func145, Tryz.ntmps145
  go_wp2_with fail
  refine (pKinds_row _).mono ?_
  rintro e w1 ⟨rfl, hr, hb⟩
  have HR := Lib.hid hr
  have HB := Lib.hid hb
  clear hr hb
  generalize (Value.slice (some ⟨w.heap.size, 0, none⟩) 7 7) = v at HR ⊢
  go_wp2_with fail
  refine (KI.out _ _ HR.out).mono ?_
  rintro e w2 ⟨rfl, nd, rfl⟩
  have hb2 := HB.out.trans ((below_drewN (Below.refl w1.heap.size w1) nd).mono HB.out.size)
  have hq := H.out.keep hb2
  have z := hq.is.c0
  have y := hq.fz 0
  have HQ := Lib.hid hq
  have HB2 := Lib.hid hb2
  clear hq hb2 HR HB H KI
  go_wp2
  go_ret
  refine ⟨decide (0 < ix), _, rfl, HQ.out.setKind ix, (Only.below HB2.out).trans (Only.set (P := fun i => i = pb) _ ⟨pb, 0, none⟩ _ rfl), fun e => ?_, fun e => ?_⟩
  · have h1 : 0 < ix := of_decide_eq_true e
    have h2 := HRR.out
    rw [if_neg (by omega)] at h2
    exact h2.symm
  · have h1 : ¬ 0 < ix := of_decide_eq_false e
    have h2 := HRR.out
    rw [if_pos (by omega)] at h2
    exact h2.symm
set_option maxHeartbeats 800000 in
theorem readShow_any (pb : Nat) (p : Pr) (a : Option Addr) (n c : Nat) (t : ByteArray) (w0 w : World) (h : PrMut w0 w pb p a n c) :
    Calls Tryz.prog 147 #[.pointer (some ⟨pb, 0, none⟩), .string t] w (PartRes w0 w pb a n c (if hasIx showWs t < 1 then none else some { p with shown := hasIx showWs t })) := by
  have H := Lib.hid h
  clear h
  have KI := Lib.hid (fun v W (h : RowS W v showWs) => placeOfWord_any v showWs t W h)
  generalize hasIx showWs t = ix at KI ⊢
  obtain ⟨r, hrr⟩ : ∃ r, (if ix < 1 then none else some { p with shown := ix }) = r := ⟨_, rfl⟩
  rw [hrr]
  have HRR := Lib.hid hrr
  clear hrr
  go_enter Tryz.func147, Tryz.ntmps147
  go_wp2_with fail
  refine (pShows_row _).mono ?_
  rintro e w1 ⟨rfl, hr, hb⟩
  have HR := Lib.hid hr
  have HB := Lib.hid hb
  clear hr hb
  generalize (Value.slice (some ⟨w.heap.size, 0, none⟩) 5 5) = v at HR ⊢
  go_wp2_with fail
  refine (KI.out _ _ HR.out).mono ?_
  rintro e w2 ⟨rfl, nd, rfl⟩
  have hb2 := HB.out.trans ((below_drewN (Below.refl w1.heap.size w1) nd).mono HB.out.size)
  have hq := H.out.keep hb2
  have z := hq.is.c3
  have y := hq.fz 3
  have HQ := Lib.hid hq
  have HB2 := Lib.hid hb2
  clear hq hb2 HR HB H KI
  go_wp2
  go_ret
  refine ⟨decide (0 < ix), _, rfl, HQ.out.setShown ix, (Only.below HB2.out).trans (Only.set (P := fun i => i = pb) _ ⟨pb, 3, none⟩ _ rfl), fun e => ?_, fun e => ?_⟩
  · have h1 : 0 < ix := of_decide_eq_true e
    have h2 := HRR.out
    rw [if_neg (by omega)] at h2
    exact h2.symm
  · have h1 : ¬ 0 < ix := of_decide_eq_false e
    have h2 := HRR.out
    rw [if_pos (by omega)] at h2
    exact h2.symm
end Go.Proofs.YticpebpicdboaaaGreatDoor

/- The program's showIn. -/
namespace Go.Proofs.YticpebpicdboaaaGreatDoor
open Go.ChangeShapes Go.WideShapes Go.ChangeAt Go.RowKit
set_option linter.unusedVariables false
set_option linter.unusedSimpArgs false

/-- the words of activities, in a new row -/
theorem actWords_row (w : World) : Calls Tryz.prog 171 #[] w fun e w' =>
    e = .returned (.slice (some ⟨w.heap.size, 0, none⟩) 4 4) ∧ Below w.heap.size w w' ∧ w.heap.size < w'.heap.size ∧ ∀ i, i < 4 → w'.cell? ⟨w.heap.size, i, none⟩ = some (.string (actWs.getD i ByteArray.empty)) := by
  go_enter Tryz.func171, Tryz.ntmps171
  go_wp2
  go_ret
  refine ⟨rfl, below1 _ _, by simp, fun i hi => ?_⟩
  match i, hi with
  | 0, _ => simp [actWs]
  | 1, _ => simp [actWs, awayNm]
  | 2, _ => simp [actWs]
  | 3, _ => simp [actWs, busyNm]
theorem hasIx_hit {ts : List ByteArray} {t : ByteArray} {k : Nat} (hk : k < ts.length) (h0 : ∀ j, j < k → ((ts.getD j ByteArray.empty).toList == t.toList) = false) (h1 : ((ts.getD k ByteArray.empty).toList == t.toList) = true) : hasIx ts t = (k : Int) := by
  have e : ts.findIdx (fun x => x.toList == t.toList) = k := by
    rw [List.findIdx_eq hk]
    refine ⟨?_, fun j hj => ?_⟩
    · rw [List.getD_eq_getElem?_getD, List.getElem?_eq_getElem hk] at h1
      exact h1
    · have := h0 j hj
      rw [List.getD_eq_getElem?_getD, List.getElem?_eq_getElem (by omega)] at this
      exact this
  unfold hasIx
  rw [e, if_pos hk]
theorem hasIx_miss {ts : List ByteArray} {t : ByteArray} (h0 : ∀ j, j < ts.length → ((ts.getD j ByteArray.empty).toList == t.toList) = false) : hasIx ts t = -1 := by
  have e : ts.findIdx (fun x => x.toList == t.toList) = ts.length := by
    rw [List.findIdx_eq_length]
    intro x hx
    obtain ⟨j, hj, rfl⟩ := List.getElem_of_mem hx
    have := h0 j hj
    rw [List.getD_eq_getElem?_getD, List.getElem?_eq_getElem hj] at this
    exact this
  unfold hasIx
  rw [e, if_neg (Nat.lt_irrefl _)]
theorem showIx_hit {l : List It} {i k : Nat} (hk : k < (kidsUp l l.length i).length) (h0 : ∀ j, j < k → hasIx actWs (l.getD ((kidsUp l l.length i).getD j 0) dIt).name < 0) (h1 : 0 ≤ hasIx actWs (l.getD ((kidsUp l l.length i).getD k 0) dIt).name) : showIx l i = hasIx actWs (l.getD ((kidsUp l l.length i).getD k 0) dIt).name := by
  unfold showIx
  rw [find_at (kidsUp l l.length i) 0 _ k hk (fun j hj => by simpa using h0 j hj) (by simpa using h1)]
theorem showIx_miss {l : List It} {i : Nat} (h0 : ∀ j, j < (kidsUp l l.length i).length → hasIx actWs (l.getD ((kidsUp l l.length i).getD j 0) dIt).name < 0) : showIx l i = 0 := by
  unfold showIx
  rw [find_no (kidsUp l l.length i) 0 _ (fun j hj => by simpa using h0 j hj)]
theorem field_list (c : Int) (a : Option Addr) (n k : Nat) (W : World) : (Instr.field 257 (.agg #[.int .i64 c, .slice a n k]) 1).run Tryz.prog W = .ok (.slice a n k) W := by kernel_rfl

set_option maxRecDepth 100000 in
set_option maxHeartbeats 3200000 in
theorem showIn_any (bi oi n c k : Nat) (l : List It) (w : World) (hT : Tabs w) (h : ItsAt w (some ⟨bi, oi, none⟩) n c l) (hc : treeCode l = 0) (hk : k < n) :
    Calls Tryz.prog 176 #[.slice (some ⟨bi, oi, none⟩) n c, .int .i64 (k : Int)] w fun e w' => e = .returned (.int .i64 (showIx l k)) ∧ Below w.heap.size w w' := by
  have hl := h.len
  have KK := Lib.hid (implKidsOf_any bi oi n c k l w hT h hc hk)
  unfold IntsRes at KK
  obtain ⟨b0, o0, e0, hI⟩ := h.row.resolve_left (by omega)
  cases e0
  have hbi : bi < w.heap.size := (hI k hk).lt
  have HI := Lib.hid hI
  have hn40 : n ≤ 40 := by have := (rises_of hc).few; omega
  have hkl : ∀ j, j < (kidsUp l l.length k).length → (kidsUp l l.length k).getD j 0 < n := fun j hj => by
    rw [List.getD_eq_getElem?_getD, List.getElem?_eq_getElem hj]
    have := kidsUp_lt (List.getElem_mem hj)
    simp only [Option.getD_some]
    omega
  have HKL := Lib.hid hkl
  have hk40 : (kidsUp l l.length k).length ≤ 40 := by have h1 := kidsUp_len l l.length k; omega
  have HHIT := Lib.hid (fun j hj h0 h1 => showIx_hit (l := l) (i := k) (k := j) hj h0 h1)
  have HMISS := Lib.hid (showIx_miss (l := l) (i := k))
  generalize showIx l k = r at HHIT HMISS ⊢
  generalize kidsUp l l.length k = ks at KK HKL HHIT HMISS hk40
  have fl := fun a n q W => field_list 0 a n q W
  clear h hT hI hkl hc
  go_enter Tryz.func176, Tryz.ntmps176
  go_wp2
  go_step3
  go_wp2
  go_step3
  go_wp2_with fail
  refine KK.out.mono ?_
  rintro e w1 ⟨ka, m, kc, rfl, ho1, hb1⟩
  have hm := ho1.1
  simp only [List.length_map, Nat.mul_one] at hm
  have HO1 := Lib.hid ho1
  have HB1 := Lib.hid hb1
  have hm40 : m ≤ 40 := by omega
  have HMM := Lib.hid hm
  clear ho1 hb1 KK hm hk40
  go_wp2
  go_loopw [5, 15] (fun f i wr => ∃ j : Nat, f = .int .i64 0 ∧ i = .int .i64 (j : Int) ∧ j ≤ m ∧ (∀ i, i < j → hasIx actWs (l.getD (ks.getD i 0) dIt).name < 0) ∧ Below w1.heap.size w1 wr) (fun _ i _ => m - (intOf i).toNat)
  case atStart => exact ⟨0, rfl, rfl, Nat.zero_le _, fun i hi => by omega, Below.refl _ _⟩
  case round =>
    obtain ⟨j, rfl, rfl, hj, hno, hb⟩ := hrel
    have HNO := Lib.hid hno
    have HB := Lib.hid hb
    clear hno hb
    by_cases hjm : j < m
    · obtain ⟨g, rfl⟩ : ∃ g, ka = some ⟨g, 0, none⟩ := by
        rcases HO1.out.2 with ⟨hv, h0⟩ | ⟨g, cap, cur, hv, _⟩
        · omega
        · simp only [Value.slice.injEq] at hv
          exact ⟨_, hv.1⟩
      have hjl : j < ks.length := by have := HMM.out; omega
      have hcx := HO1.out.cellAt j (by omega)
      rw [List.getElem?_map, List.getElem?_map, List.getElem?_eq_getElem hjl, Option.map_some, Option.map_some] at hcx
      have hgx : ks.getD j 0 = ks[j] := by rw [List.getD_eq_getElem?_getD, List.getElem?_eq_getElem hjl]; rfl
      rw [← hgx] at hcx
      have hgl : g < w1.heap.size := (HO1.out.lt g rfl).2
      have hx := HKL.out j hjl
      have d0 := (HB.out.cell (p := ⟨g, j, none⟩) hgl).trans hcx
      have q0 : (j : Int) < (m : Int) := by omega
      have HH := Lib.hid (fun (hh : 0 ≤ hasIx actWs (l.getD (ks.getD j 0) dIt).name) => HHIT.out j hjl HNO.out hh)
      have HNX := Lib.hid (fun (hh : hasIx actWs (l.getD (ks.getD j 0) dIt).name < 0) (i : Nat) (hi : i < j + 1) => (by
        rcases Nat.lt_or_ge i j with h | h
        · exact HNO.out i h
        · obtain rfl : i = j := by omega
          exact hh : hasIx actWs (l.getD (ks.getD i 0) dIt).name < 0))
      have hit := (HI.out (ks.getD j 0) hx).below (HB1.out.trans (HB.out.mono HB1.out.size))
      have c3 := hit.c3
      have hbir : bi < wr.heap.size := hit.lt
      clear hcx hgx hit HNO
      generalize ks.getD j 0 = x at d0 HH HNX c3 hx
      obtain ⟨nm, hnm⟩ : ∃ nm, (l.getD x dIt).name = nm := ⟨_, rfl⟩
      rw [hnm] at HH HNX c3
      have hxi : (x : Int) < (n : Int) := by omega
      clear hnm
      go_wp2_with fail
      refine (actWords_row _).mono ?_
      rintro e w2 ⟨rfl, hb2, hz2, hrow⟩
      have HB2 := Lib.hid (HB.out.trans (hb2.mono HB.out.size))
      have HROW := Lib.hid hrow
      have c3 := (hb2.cell (p := ⟨bi, oi + x * 5 + 3, none⟩) hbir).trans c3
      have HC3 := Lib.hid c3
      have hbi2 : bi < w2.heap.size := by have := hb2.size; omega
      clear hb2 hrow d0
      go_wp2
      go_loopw [5, 21] (fun f i wq => ∃ q : Nat, f = .int .i64 0 ∧ i = .int .i64 (q : Int) ∧ q ≤ 4 ∧ (∀ i, i < q → ((actWs.getD i ByteArray.empty).toList == nm.toList) = false) ∧ wq = w2) (fun _ i _ => 4 - (intOf i).toNat)
      case atStart => exact ⟨0, rfl, rfl, Nat.zero_le _, fun i hi => by omega, rfl⟩
      case round =>
        obtain ⟨q, rfl, rfl, hq, hnq, rfl⟩ := hrel
        have HNQ := Lib.hid hnq
        clear hnq
        by_cases hq4 : q < 4
        · have dw := HROW.out q hq4
          have q1 : (q : Int) < 4 := by omega
          have c3 := HC3.out
          have HE : Hid (((actWs.getD q ByteArray.empty).toList == nm.toList) = true → r = (q : Int)) := Lib.hid fun h => by
            have e := hasIx_hit (ts := actWs) (t := nm) (k := q) hq4 HNQ.out h
            rw [HH.out (by rw [e]; omega), e]
          have HNE : Hid (((actWs.getD q ByteArray.empty).toList == nm.toList) = false → ∀ i, i < q + 1 → ((actWs.getD i ByteArray.empty).toList == nm.toList) = false) := Lib.hid fun h i hi => by
            rcases Nat.lt_or_ge i q with h1 | h1
            · exact HNQ.out i h1
            · obtain rfl : i = q := by omega
              exact h
          generalize actWs.getD q ByteArray.empty = wd at dw HE HNE
          cases hw : wd.toList == nm.toList
          · have HN2 := Lib.hid (HNE.out hw)
            clear HE HNE
            go_wp2
            go_roundw
            case rel => exact ⟨q + 1, rfl, by go_num, by omega, HN2.out, by first | rfl | trivial⟩
            case measure => simp [intOf]; omega
          · obtain rfl := HE.out hw
            clear HNE
            go_wp2
            go_ret
            exact ⟨rfl, HB1.out.trans (HB2.out.mono HB1.out.size)⟩
        · obtain rfl : q = 4 := by omega
          have HN3 := Lib.hid (HNX.out (by rw [hasIx_miss (fun j hj => HNQ.out j hj)]; decide))
          go_wp2
          go_roundw
          case rel => exact ⟨j + 1, rfl, by go_num, by omega, HN3.out, HB2.out⟩
          case measure => simp [intOf]; omega
    · obtain rfl : j = m := by omega
      have hr := HMISS.out (fun i hi => HNO.out i (by have := HMM.out; omega))
      subst hr
      go_wp2
      go_ret
      exact ⟨rfl, HB1.out.trans (HB.out.mono HB1.out.size)⟩
end Go.Proofs.YticpebpicdboaaaGreatDoor

/- The program's toldIn. -/
namespace Go.Proofs.YticpebpicdboaaaGreatDoor
open Go.ChangeShapes Go.WideShapes Go.ChangeAt Go.RowKit
set_option linter.unusedVariables false
set_option linter.unusedSimpArgs false

theorem in_little {l : List It} (hc : treeCode l = 0) (i : Nat) : (l.getD i dIt).text.size ≤ 1000 := by
  rcases Nat.lt_or_ge i l.length with h | h
  · have := text_le hc h
    omega
  · rw [List.getD_eq_getElem?_getD, List.getElem?_eq_none h]
    decide
theorem field_txt (c : Int) (t : ByteArray) (W : World) : (Instr.field 42 (.agg #[.int .i64 c, .string t]) 1).run Tryz.prog W = .ok (.string t) W := by kernel_rfl
theorem trimPres_any (s : ByteArray) (w : World) : Calls Tryz.prog 173 #[.string s, .string presP] w fun e w' => e = .returned (.string (off5 s)) ∧ w' = w := Tryz.strings_TrimPrefix s presP w
theorem basic_row (w : World) : Calls Tryz.prog 170 #[] w fun e w' =>
    e = .returned (.slice (some ⟨w.heap.size, 0, none⟩) 2 2) ∧ Below w.heap.size w w' ∧ RowS w' (.slice (some ⟨w.heap.size, 0, none⟩) 2 2) basicWs := by
  go_enter Tryz.func170, Tryz.ntmps170
  go_wp2
  go_ret
  refine ⟨rfl, below1 _ _, .inr ⟨w.heap.size, 0, 2, rfl, by decide, by decide, by simp, fun i hi => ?_⟩⟩
  have h2 : i < 2 := hi
  rw [Nat.zero_add]
  match i, h2 with
  | 0, _ => simp [basicWs, openT]
  | 1, _ => simp [basicWs, closedT]

set_option maxRecDepth 100000 in
set_option maxHeartbeats 3200000 in
theorem toldIn_any (b o n c : Nat) (l : List It) (w : World) (hT : Tabs w) (hPw : Pows w) (hc : treeCode l = 0) (h : ItsAt w (some ⟨b, o, none⟩) n c l) :
    Calls Tryz.prog 101 #[.slice (some ⟨b, o, none⟩) n c] w (GuessRes w (guessP l)) := by
  have hR := rises_of hc
  have hlen := h.len
  have hn1 : 0 < n := by have := hR.some; omega
  have hn40 : n ≤ 40 := by have := hR.few; omega
  obtain ⟨b1, o1, e1, hat⟩ := h.row.resolve_left (by omega)
  cases e1
  have hbw : b < w.heap.size := (hat 0 hn1).lt
  have HAT := Lib.hid (fun W (hb : Below w.heap.size w W) i (hi : i < n) => (hat i hi).below hb)
  have KT := Lib.hid (fun W (hb : Below w.heap.size w W) p (hp : p < n) => implTextIn_any b o n c p l W (tabs_kept hT hb) (h.below hb) hc hp (in_little hc))
  have HIT := Lib.hid (fun p (hp : p < n) => (in_text hc (a := p) (by omega)).2)
  have KV := Lib.hid (fun W (hb : Below w.heap.size w W) i (hi : i < n) name => implValueOf_any b o n c i l name W (tabs_kept hT hb) (h.below hb) hc hi)
  have KS := Lib.hid (fun W (hb : Below w.heap.size w W) i (hi : i < n) => showIn_any b o n c i l W (tabs_kept hT hb) (h.below hb) hc hi)
  have HPW := Lib.hid (fun W (hb : Below w.heap.size w W) => hPw.below hb)
  unfold TxtRes at KT KV
  obtain ⟨wR, hwR⟩ : ∃ wR, w.alloc (.cells #[.int .i64 0, .string ⟨#[]⟩, .string ⟨#[]⟩, .int .i64 0, .string ⟨#[]⟩, .int .i64 0, .slice none 0 0] 26) = wR := ⟨_, rfl⟩
  have HRB : Hid (Below w.heap.size w wR) := Lib.hid (by rw [← hwR]; exact below1 _ _)
  have hwl : w.heap.size < wR.heap.size := by rw [← hwR]; simp
  have HBX : Hid (Box7 wR w.heap.size) := Lib.hid (by
    rw [← hwR]
    refine ⟨fun i hi => ?_, fun i => by simp⟩
    match i, hi with
    | 0, _ => exact ⟨.int .i64 0, by simp⟩
    | 1, _ => exact ⟨.string ⟨#[]⟩, by simp⟩
    | 2, _ => exact ⟨.string ⟨#[]⟩, by simp⟩
    | 3, _ => exact ⟨.int .i64 0, by simp⟩
    | 4, _ => exact ⟨.string ⟨#[]⟩, by simp⟩
    | 5, _ => exact ⟨.int .i64 0, by simp⟩
    | 6, _ => exact ⟨.slice none 0 0, by simp⟩)
  have HUP : Hid (∀ k, upP l (k + 1) = stepP l k (upP l k)) := Lib.hid fun k => rfl
  have HGN : Hid (∀ k, k < n → (∀ j, j < k → isNote l j = false) → isNote l k = true → guessP l = upP l (k + 1)) := Lib.hid fun k hk h0 h1 => guessP_note (by omega) h0 h1
  have HGA : Hid ((∀ j, j < n → isNote l j = false) → guessP l = upP l n) := Lib.hid fun h0 => by rw [← hlen]; exact guessP_none (by rw [hlen]; exact h0)
  generalize guessP l = gg at HGN HGA ⊢
  have HS0 : Hid (upP l 0 = { dPr with sender := off5 (valT (valueL (l.getD 0 dIt).attrs entityNm)) }) := Lib.hid rfl
  unfold GuessRes
  have KV0 := Lib.hid (KV.out _ HRB.out 0 hn1 entityNm)
  clear h hc hR hat hlen hT hPw
  unfold entityNm at KV0 HS0
  generalize valT (valueL (l.getD 0 dIt).attrs ⟨#[101, 110, 116, 105, 116, 121]⟩) = ent at KV0 HS0
  generalize valC (valueL (l.getD 0 dIt).attrs ⟨#[101, 110, 116, 105, 116, 121]⟩) = ec at KV0
  have KP := Lib.hid (fun W => trimPres_any ent W)
  unfold presP at KP
  have ft := fun c t W => field_txt c t W
  go_enter Tryz.func101, Tryz.ntmps101
  go_wp2
  go_step3
  go_wp2_with fail
  refine KV0.out.mono ?_
  rintro e w1 ⟨rfl, hb1⟩
  have HB1 := Lib.hid hb1
  clear hb1 KV0
  go_wp2_with fail
  refine (KP.out _).mono ?_
  rintro e w2 ⟨rfl, rfl⟩
  have HP1 : Hid (PrMut wR (w2.alloc (.cells #[.int .i64 0, .string (off5 ent), .string ⟨#[]⟩, .int .i64 0, .string ⟨#[]⟩, .int .i64 0, .slice none 0 0] 26)) w2.heap.size (upP l 0) none 0 0) := Lib.hid (by
    rw [HS0.out]
    exact PrMut.new wR w2 HB1.out 26 { dPr with sender := off5 ent } none 0 0)
  have hzw : wR.heap.size ≤ w2.heap.size := HB1.out.size
  clear KP HS0
  go_wp2
  go_step3
  go_wp2
  obtain ⟨pb, hpb⟩ : ∃ pb, w2.heap.size = pb := ⟨_, rfl⟩
  generalize w2.alloc (.cells #[.int .i64 0, .string (off5 ent), .string ⟨#[]⟩, .int .i64 0, .string ⟨#[]⟩, .int .i64 0, .slice none 0 0] 26) = w3 at HP1 ⊢
  rw [hpb] at HP1 hzw ⊢
  have hwl2 : w.heap.size < pb := by omega
  clear hpb
  go_loopw [14] (fun i wr => ∃ k : Nat, k ≤ n ∧ i = .int .i64 (k : Int) ∧ (∀ j, j < k → isNote l j = false) ∧ PrMut wR wr pb (upP l k) none 0 0) (fun i _ => n - (intOf i).toNat)
  case atStart => exact ⟨0, Nat.zero_le _, rfl, fun j hj => by omega, HP1.out⟩
  case round =>
    obtain ⟨k, hk, rfl, hno, hq⟩ := hrel
    have HQ := Lib.hid hq
    have HNO := Lib.hid hno
    clear hq hno HP1
    by_cases hlt : k < n
    · have hbr : Below w.heap.size w wr := HRB.out.trans (HQ.out.below.mono HRB.out.size)
      have HBR := Lib.hid hbr
      have KX := Lib.hid (fun W (hW : Below wr.heap.size wr W) => KT.out W (hbr.trans (hW.mono hbr.size)) k hlt)
      rw [HIT.out k hlt] at KX
      have KW := Lib.hid (fun W (hW : Below wr.heap.size wr W) => KS.out W (hbr.trans (hW.mono hbr.size)) k hlt)
      have HU0 := Lib.hid (HUP.out k)
      unfold stepP at HU0
      have q0 : (k : Int) < (n : Int) := by omega
      have hitk := HAT.out wr hbr k hlt
      have c0 := hitk.c0
      have c1 := hitk.c1
      have c2 := hitk.c2
      have c3 := hitk.c3
      obtain ⟨a4, n4, q4, c4, _⟩ := hitk.c4
      have HKV := Lib.hid (fun W (hW : Below wr.heap.size wr W) => KV.out W (hbr.trans (hW.mono hbr.size)) k hlt prioKey)
      have HNT : Hid (isNote l k = false → ∀ j, j < k + 1 → isNote l j = false) := Lib.hid fun h j hj => by
        rcases Nat.lt_or_ge j k with h1 | h1
        · exact HNO.out j h1
        · obtain rfl : j = k := by omega
          exact h
      have hbwr : b < wr.heap.size := World.block_lt_of_cell? _ _ c3
      clear hbr hitk
      obtain ⟨q1, hq1⟩ : ∃ q1, upP l (k + 1) = q1 := ⟨_, rfl⟩
      rw [hq1] at HU0
      have HQ1 := Lib.hid hq1
      clear hq1
      generalize upP l k = q at HQ HU0
      generalize txtT (textL l k) = tt at KX HU0
      generalize inC l (kidsUp l l.length k) = ic at KX
      obtain ⟨y, hy⟩ : ∃ y, l.getD k dIt = y := ⟨_, rfl⟩
      rw [hy] at HU0 c0 c1 c2 c3 HKV
      obtain ⟨yd, yt, ys, yn, ya⟩ := y
      dsimp only at HU0 c0 c1 c2 c3 HKV
      have HNN : Hid ((l.getD k dIt).name = yn) := Lib.hid (by rw [hy])
      clear hy
      generalize valT (valueL ya prioKey) = pv at HU0 HKV
      generalize valC (valueL ya prioKey) = pc at HKV
      have HBN := Lib.hid (below1 wr (.cells #[.int .i64 yd, .string yt, .string ys, .string yn, .slice a4 n4 q4] 77))
      have HQ2 := Lib.hid (HQ.out.keep HBN.out)
      clear HQ
      unfold isNote at HNT
      by_cases n_basic : yn = basicNm
      case pos =>
        have g_basic : (yn.toList == [98, 97, 115, 105, 99]) = true := nm_yes (by rw [ByteArray.toList_eq]; rfl) n_basic
        have HU : Hid (q1 = { q with kind := hasIx basicWs tt }) := Lib.hid (by rw [HU0.out, if_pos n_basic])
        have HNB : Hid (yn ≠ noteNm) := Lib.hid (by rw [n_basic]; decide)
        clear n_basic HKV
        go_wp2_with fail
        refine (basic_row _).mono ?_
        rintro e w4 ⟨rfl, hb4, hr4⟩
        rw [World.size_alloc] at hr4
        have HR4 := Lib.hid hr4
        have HB4 := Lib.hid (below_then HBN.out hb4)
        have HQ4 := Lib.hid (HQ2.out.keep hb4)
        clear hb4 hr4 HQ2
        go_wp2_with fail
        refine (KX.out _ HB4.out).mono ?_
        rintro e w5 ⟨rfl, hb5⟩
        have HR5 := Lib.hid (HR4.out.below hb5)
        have HQ5 := Lib.hid (HQ4.out.keep hb5)
        clear hb5 HR4 HQ4 HB4
        go_wp2_with fail
        refine (implIndex_any _ basicWs tt _ HR5.out).mono ?_
        rintro e w6 ⟨rfl, nd, rfl⟩
        have HQ2 := Lib.hid (HQ5.out.keep (below_drewN (Below.refl _ _) nd))
        clear HQ5 HR5
        generalize hasIx basicWs tt = hx at HU ⊢
        have z := HQ2.out.is.c0
        have y := HQ2.out.fz 0
        go_wp2
        go_roundw
        case rel => exact ⟨k + 1, by omega, by go_num, HNT.out (by rw [HNN.out]; exact decide_eq_false HNB.out), by rw [HQ1.out, HU.out]; exact HQ2.out.setKind hx⟩
        case measure => simp [intOf]; omega
      have g_basic : (yn.toList == [98, 97, 115, 105, 99]) = false := nm_no (by rw [ByteArray.toList_eq]; rfl) n_basic
      by_cases n_act : yn = actNm
      case pos =>
        have g_act : (yn.toList == [97, 99, 116, 105, 118, 105, 116, 105, 101, 115]) = true := nm_yes (by rw [ByteArray.toList_eq]; rfl) n_act
        have HU : Hid (q1 = { q with shown := showIx l k }) := Lib.hid (by rw [HU0.out, if_neg n_basic, if_pos n_act])
        have HNB : Hid (yn ≠ noteNm) := Lib.hid (by rw [n_act]; decide)
        clear n_basic n_act HKV
        go_wp2_with fail
        refine (KW.out _ HBN.out).mono ?_
        rintro e w6 ⟨rfl, hb6⟩
        have HQ6 := Lib.hid (HQ2.out.keep hb6)
        clear hb6 HQ2
        have HQ2 := HQ6
        clear HQ6
        generalize showIx l k = sx at HU ⊢
        have z := HQ2.out.is.c3
        have y := HQ2.out.fz 3
        go_wp2
        go_roundw
        case rel => exact ⟨k + 1, by omega, by go_num, HNT.out (by rw [HNN.out]; exact decide_eq_false HNB.out), by rw [HQ1.out, HU.out]; exact HQ2.out.setShown sx⟩
        case measure => simp [intOf]; omega
      have g_act : (yn.toList == [97, 99, 116, 105, 118, 105, 116, 105, 101, 115]) = false := nm_no (by rw [ByteArray.toList_eq]; rfl) n_act
      by_cases n_cont : yn = contNm
      case pos =>
        have g_cont : (yn.toList == [99, 111, 110, 116, 97, 99, 116]) = true := nm_yes (by rw [ByteArray.toList_eq]; rfl) n_cont
        have HU : Hid (q1 = { q with prio := prioWith pv }) := Lib.hid (by rw [HU0.out, if_neg n_basic, if_neg n_act, if_pos n_cont])
        have HNB : Hid (yn ≠ noteNm) := Lib.hid (by rw [n_cont]; decide)
        clear n_basic n_act n_cont
        unfold prioKey at HKV
        go_wp2_with fail
        refine (HKV.out _ HBN.out).mono ?_
        rintro e w4 ⟨rfl, hb4⟩
        have HQ4 := Lib.hid (HQ2.out.keep hb4)
        have HB4 := Lib.hid (below_then HBN.out hb4)
        clear hb4 HQ2 HKV
        go_wp2_with fail
        refine (prioWith_any pv _ (HPW.out _ (below_then HBR.out HB4.out))).mono ?_
        rintro e w5 ⟨rfl, hb5⟩
        have HQ2 := Lib.hid (HQ4.out.keep hb5)
        clear hb5 HQ4 HB4
        generalize prioWith pv = px at HU ⊢
        have z := HQ2.out.is.c5
        have y := HQ2.out.fz 5
        go_wp2
        go_roundw
        case rel => exact ⟨k + 1, by omega, by go_num, HNT.out (by rw [HNN.out]; exact decide_eq_false HNB.out), by rw [HQ1.out, HU.out]; exact HQ2.out.setPrio px⟩
        case measure => simp [intOf]; omega
      have g_cont : (yn.toList == [99, 111, 110, 116, 97, 99, 116]) = false := nm_no (by rw [ByteArray.toList_eq]; rfl) n_cont
      by_cases n_note : yn = noteNm
      case pos =>
        have g_note : (yn.toList == [110, 111, 116, 101]) = true := nm_yes (by rw [ByteArray.toList_eq]; rfl) n_note
        have HU : Hid (q1 = { q with status := tt }) := Lib.hid (by rw [HU0.out, if_neg n_basic, if_neg n_act, if_neg n_cont, if_pos n_note])
        have HNB : Hid (yn = noteNm) := Lib.hid n_note
        clear n_basic n_act n_cont n_note HKV
        have hgg := HGN.out k hlt HNO.out (by unfold isNote; rw [HNN.out]; exact decide_eq_true HNB.out)
        go_wp2_with fail
        refine (KX.out _ HBN.out).mono ?_
        rintro e w5 ⟨rfl, hb5⟩
        have HQ5 := Lib.hid (HQ2.out.keep hb5)
        have hbx := HBX.out.below hwl HQ5.out.below
        obtain ⟨v0, b0⟩ := hbx.c 0 (by omega)
        obtain ⟨v1, b1⟩ := hbx.c 1 (by omega)
        obtain ⟨v2, b2⟩ := hbx.c 2 (by omega)
        obtain ⟨v3, b3⟩ := hbx.c 3 (by omega)
        obtain ⟨v4, b4⟩ := hbx.c 4 (by omega)
        obtain ⟨v5, b5⟩ := hbx.c 5 (by omega)
        obtain ⟨v6, b6⟩ := hbx.c 6 (by omega)
        have f0 := hbx.f 0
        have f1 := hbx.f 1
        have f2 := hbx.f 2
        have f3 := hbx.f 3
        have f4 := hbx.f 4
        have f5 := hbx.f 5
        have f6 := hbx.f 6
        rw [HQ1.out, HU.out] at hgg
        subst hgg
        obtain ⟨qk, qf, qt, qs, qu, qp, qm⟩ := q
        have z0 := HQ5.out.is.c0
        have z1 := HQ5.out.is.c1
        have z2 := HQ5.out.is.c2
        have z3 := HQ5.out.is.c3
        have z4 := HQ5.out.is.c4
        have z5 := HQ5.out.is.c5
        have z6 := HQ5.out.is.c6
        have y4 := HQ5.out.fz 4
        have zl := HQ5.out.is.lt
        dsimp only at z0 z1 z2 z3 z4 z5 z6 ⊢
        have hn8 : w.heap.size ≠ pb := by omega
        have hn9 : pb ≠ w.heap.size := by omega
        have HB9 := Lib.hid ((HRB.out.trans (HQ5.out.below.mono HRB.out.size)).setCell (p := ⟨pb, 4, none⟩) (by show w.heap.size ≤ pb; omega) (.string tt))
        clear hb5 HQ2 HQ5 HGN HGA hwl2
        go_wp2
        try rw [Exit.noGoto_ret]
        exact bodyPost_ret (v := .agg #[.int .i64 qk, .string qf, .string qt, .int .i64 qs, .string tt, .int .i64 qp, .slice none 0 0]) (by simp [results, Tryz.results101, go_sem, b0, b1, b2, b3, b4, b5, b6, hn8, hn9]) rfl ⟨rfl, (((((((HB9.out.setCell (p := ⟨w.heap.size, 0, none⟩) (Nat.le_refl _) _).setCell (p := ⟨w.heap.size, 1, none⟩) (Nat.le_refl _) _).setCell (p := ⟨w.heap.size, 2, none⟩) (Nat.le_refl _) _).setCell (p := ⟨w.heap.size, 3, none⟩) (Nat.le_refl _) _).setCell (p := ⟨w.heap.size, 4, none⟩) (Nat.le_refl _) _).setCell (p := ⟨w.heap.size, 5, none⟩) (Nat.le_refl _) _).setCell (p := ⟨w.heap.size, 6, none⟩) (Nat.le_refl _) _)⟩
      have g_note : (yn.toList == [110, 111, 116, 101]) = false := nm_no (by rw [ByteArray.toList_eq]; rfl) n_note
      have HU : Hid (q1 = q) := Lib.hid (by rw [HU0.out, if_neg n_basic, if_neg n_act, if_neg n_cont, if_neg n_note])
      have HNB : Hid (yn ≠ noteNm) := Lib.hid n_note
      clear n_basic n_act n_cont n_note HKV
      go_wp2
      go_roundw
      case rel => exact ⟨k + 1, by omega, by go_num, HNT.out (by rw [HNN.out]; exact decide_eq_false HNB.out), by rw [HQ1.out, HU.out]; exact HQ2.out⟩
      case measure => simp [intOf]; omega
    · obtain rfl : k = n := by omega
      have hgg := HGA.out HNO.out
      have hbx := HBX.out.below hwl HQ.out.below
      obtain ⟨v0, b0⟩ := hbx.c 0 (by omega)
      obtain ⟨v1, b1⟩ := hbx.c 1 (by omega)
      obtain ⟨v2, b2⟩ := hbx.c 2 (by omega)
      obtain ⟨v3, b3⟩ := hbx.c 3 (by omega)
      obtain ⟨v4, b4⟩ := hbx.c 4 (by omega)
      obtain ⟨v5, b5⟩ := hbx.c 5 (by omega)
      obtain ⟨v6, b6⟩ := hbx.c 6 (by omega)
      have f0 := hbx.f 0
      have f1 := hbx.f 1
      have f2 := hbx.f 2
      have f3 := hbx.f 3
      have f4 := hbx.f 4
      have f5 := hbx.f 5
      have f6 := hbx.f 6
      have HQ' := HQ.out
      rw [← hgg] at HQ'
      obtain ⟨qk, qf, qt, qs, qu, qp, qm⟩ := gg
      have z0 := HQ'.is.c0
      have z1 := HQ'.is.c1
      have z2 := HQ'.is.c2
      have z3 := HQ'.is.c3
      have z4 := HQ'.is.c4
      have z5 := HQ'.is.c5
      have z6 := HQ'.is.c6
      have zl := HQ'.is.lt
      have HB9 := Lib.hid (HRB.out.trans (HQ'.below.mono HRB.out.size))
      dsimp only at z0 z1 z2 z3 z4 z5 z6
      clear hgg HQ' HQ HGN HGA
      go_wp2
      try rw [Exit.noGoto_ret]
      exact bodyPost_ret (v := .agg #[.int .i64 qk, .string qf, .string qt, .int .i64 qs, .string qu, .int .i64 qp, .slice none 0 0]) (by simp [results, Tryz.results101, go_sem, b0, b1, b2, b3, b4, b5, b6]) rfl ⟨rfl, (((((((HB9.out.setCell (p := ⟨w.heap.size, 0, none⟩) (Nat.le_refl _) _).setCell (p := ⟨w.heap.size, 1, none⟩) (Nat.le_refl _) _).setCell (p := ⟨w.heap.size, 2, none⟩) (Nat.le_refl _) _).setCell (p := ⟨w.heap.size, 3, none⟩) (Nat.le_refl _) _).setCell (p := ⟨w.heap.size, 4, none⟩) (Nat.le_refl _) _).setCell (p := ⟨w.heap.size, 5, none⟩) (Nat.le_refl _) _).setCell (p := ⟨w.heap.size, 6, none⟩) (Nat.le_refl _) _)⟩
end Go.Proofs.YticpebpicdboaaaGreatDoor

/- Rows of items laid by a literal. -/
namespace Go.Proofs.YticpebpicdboaaaGreatDoor
open Go.ChangeShapes Go.WideShapes Go.ChangeAt Go.RowKit
set_option linter.unusedVariables false
set_option linter.unusedSimpArgs false

theorem GrowIts.base {w : World} {B B' : Nat} {v : Value} {n : Nat} {l : List It} {A : Nat → Option Addr} {N C : Nat → Nat} (h : GrowIts w B v n l A N C) (hle : B' ≤ B) : GrowIts w B' v n l A N C :=
  ⟨owns_mono h.row hle, fun i hi => ⟨⟨(h.ats i hi).1.ats, (h.ats i hi).1.own.imp id fun ⟨b, g1, g2, g3, g4⟩ => ⟨b, g1, by omega, g3, g4⟩⟩, (h.ats i hi).2⟩, h.apart, h.each⟩
theorem OwnAts.later2 {w w' : World} {lo : Nat} {a : Option Addr} {n c : Nat} {l : List At} (h : OwnAts w lo w.heap.size a n c l) (hb : Below w.heap.size w w') : OwnAts w' lo w'.heap.size a n c l := h.later hb hb.size
theorem grow_lit {w : World} {B : Nat} (l : List It) (A : Nat → Option Addr) (N C : Nat → Nat) (arr : Array Value) (harr : arr.toList = flatI l A N C) (hB : B ≤ w.heap.size) (hk : l.length ≤ 1000)
    (hA : ∀ i, i < l.length → OwnAts w B w.heap.size (A i) (N i) (C i) (l.getD i dIt).attrs ∧ (A i = none → C i = 0))
    (hE : ∀ i j, i < l.length → j < l.length → i ≠ j → ∀ x y, A i = some x → A j = some y → N i ≠ 0 → N j ≠ 0 → x.block ≠ y.block) :
    GrowIts (w.alloc (.cells arr 77)) B (.slice (some ⟨w.heap.size, 0, none⟩) l.length l.length) l.length l A N C := by
  have hsz : arr.size = l.length * 5 := by rw [← Array.length_toList, harr, flatI_length]
  have hl := World.ownsRow_lit (base := B) (e := 77) (size := 5) w arr l.length hB (by unfold maxLen; omega) hsz
  refine ⟨by rw [← harr]; exact hl, fun i hi => ⟨?_, (hA i hi).2⟩, fun i hi x hx hne => ?_, hE⟩
  · exact (hA i hi).1.later (below1 w _) (by simp)
  · have g := (hA i hi).1.in hx hne
    simp only [Value.ownBlock]
    intro e
    simp only [Option.some.injEq] at e
    omega
def five (a b : Option Addr) (i : Nat) : Option Addr := if i = 0 then a else if i = 1 then b else none
def fiveN (i : Nat) : Nat := if i = 0 then 1 else if i = 1 then 1 else 0
def headW (f bw : ByteArray) : List It := [rootP8 f, elemI 1 pidfSp tupleNm [⟨idNm, tT⟩], elemI 2 pidfSp stNm [], elemI 3 pidfSp basicNm [], textI 4 bw]
theorem five_one (l : List It) (x : It) : (x :: l).getD 0 dIt = x := rfl
theorem grow_head {W : World} {B : Nat} (f bw : ByteArray) (k1 k2 : Nat) (hB : B ≤ W.heap.size) (O1 : OwnAts W B W.heap.size (some ⟨k1, 0, none⟩) 1 1 [⟨⟨#[101, 110, 116, 105, 116, 121]⟩, ⟨#[112, 114, 101, 115, 58]⟩ ++ f⟩]) (O2 : OwnAts W B W.heap.size (some ⟨k2, 0, none⟩) 1 1 [⟨⟨#[105, 100]⟩, ⟨#[116]⟩⟩]) (hne : k1 ≠ k2) :
    GrowIts (W.alloc (.cells #[.int .i64 0, .string ⟨#[]⟩, .string ⟨#[117, 114, 110, 58, 105, 101, 116, 102, 58, 112, 97, 114, 97, 109, 115, 58, 120, 109, 108, 58, 110, 115, 58, 112, 105, 100, 102]⟩, .string ⟨#[112, 114, 101, 115, 101, 110, 99, 101]⟩, .slice (some ⟨k1, 0, none⟩) 1 1, .int .i64 1, .string ⟨#[]⟩, .string ⟨#[117, 114, 110, 58, 105, 101, 116, 102, 58, 112, 97, 114, 97, 109, 115, 58, 120, 109, 108, 58, 110, 115, 58, 112, 105, 100, 102]⟩, .string ⟨#[116, 117, 112, 108, 101]⟩, .slice (some ⟨k2, 0, none⟩) 1 1, .int .i64 2, .string ⟨#[]⟩, .string ⟨#[117, 114, 110, 58, 105, 101, 116, 102, 58, 112, 97, 114, 97, 109, 115, 58, 120, 109, 108, 58, 110, 115, 58, 112, 105, 100, 102]⟩, .string ⟨#[115, 116, 97, 116, 117, 115]⟩, .slice none 0 0, .int .i64 3, .string ⟨#[]⟩, .string ⟨#[117, 114, 110, 58, 105, 101, 116, 102, 58, 112, 97, 114, 97, 109, 115, 58, 120, 109, 108, 58, 110, 115, 58, 112, 105, 100, 102]⟩, .string ⟨#[98, 97, 115, 105, 99]⟩, .slice none 0 0, .int .i64 4, .string bw, .string ⟨#[]⟩, .string ⟨#[]⟩, .slice none 0 0] 77)) B (.slice (some ⟨W.heap.size, 0, none⟩) 5 5) 5 (headW f bw) (five (some ⟨k1, 0, none⟩) (some ⟨k2, 0, none⟩)) fiveN fiveN := by
  refine grow_lit (headW f bw) _ _ _ _ ?_ hB (by show (5 : Nat) ≤ 1000; decide) (fun i hi => ?_) (fun i j hi hj hij x y hx hy hnx hny => ?_)
  · show _ = List.map (cellI (headW f bw) _ _ _) (List.range 25)
    rw [show List.range 25 = [0, 1, 2, 3, 4, 5, 6, 7, 8, 9, 10, 11, 12, 13, 14, 15, 16, 17, 18, 19, 20, 21, 22, 23, 24] from by decide]
    rfl
  · match i, hi with
    | 0, _ => exact ⟨O1, fun e => by cases e⟩
    | 1, _ => exact ⟨O2, fun e => by cases e⟩
    | 2, _ => exact ⟨bareAts _ _ _, fun _ => rfl⟩
    | 3, _ => exact ⟨bareAts _ _ _, fun _ => rfl⟩
    | 4, _ => exact ⟨bareAts _ _ _, fun _ => rfl⟩
  · have h5 : ∀ i, fiveN i ≠ 0 → i = 0 ∨ i = 1 := fun i h => by
      unfold fiveN at h
      split at h
      · exact .inl (by assumption)
      · split at h
        · exact .inr (by assumption)
        · exact absurd rfl h
    rcases h5 i hnx with rfl | rfl <;> rcases h5 j hny with rfl | rfl
    · exact absurd rfl hij
    · simp only [five, if_true, Option.some.injEq] at hx hy
      simp at hy
      subst hx; subst hy
      exact hne
    · simp only [five, if_true, Option.some.injEq] at hx hy
      simp at hx
      subst hx; subst hy
      exact hne.symm
    · exact absurd rfl hij
end Go.Proofs.YticpebpicdboaaaGreatDoor
