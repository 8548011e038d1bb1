/- impl.TextIn at a tree without fault. -/
import Derived.Test.YtjkmgpomcnplnaaGreatDoorGS27
import Derived.Test.YtjkmgpomcnplnaaGreatDoorGS13
namespace Go.Proofs.YtjkmgpomcnplnaaGreatDoor
open Go.ChangeShapes Go.WideShapes Go.ChangeAt Go.RowKit Go.Shelf
set_option linter.unusedVariables false
def joinT (l : List It) (ks : List Nat) : Nat → ByteArray
  | 0 => ByteArray.empty
  | j + 1 => joinT l ks j ++ (l.getD (ks.getD j 0) dIt).text
def isTx (l : List It) (ks : List Nat) (j : Nat) : Bool := (l.getD (ks.getD j 0) dIt).name.toList.isEmpty
def inC (l : List It) (ks : List Nat) : Int := if (List.range ks.length).all (isTx l ks) then (if 60 < (joinT l ks ks.length).size then 2 else 0) else 1
def inT (l : List It) (ks : List Nat) : ByteArray := if (List.range ks.length).all (isTx l ks) then (if 60 < (joinT l ks ks.length).size then ⟨#[]⟩ else joinT l ks ks.length) else ⟨#[]⟩
theorem in_no {l : List It} {ks : List Nat} {j : Nat} (hj : j < ks.length) (h : isTx l ks j = false) : inC l ks = 1 ∧ inT l ks = ⟨#[]⟩ := by
  have e : (List.range ks.length).all (isTx l ks) = false := by
    rw [List.all_eq_false]
    exact ⟨j, List.mem_range.2 hj, by rw [h]; simp⟩
  unfold inC inT
  rw [e]
  exact ⟨rfl, rfl⟩
theorem in_yes {l : List It} {ks : List Nat} (h : ∀ j, j < ks.length → isTx l ks j = true) : inC l ks = (if 60 < (joinT l ks ks.length).size then 2 else 0) ∧ inT l ks = (if 60 < (joinT l ks ks.length).size then ⟨#[]⟩ else joinT l ks ks.length) := by
  have e : (List.range ks.length).all (isTx l ks) = true := by
    rw [List.all_eq_true]
    exact fun j hj => h j (List.mem_range.1 hj)
  unfold inC inT
  rw [e]
  exact ⟨rfl, rfl⟩
theorem joinT_size {l : List It} {ks : List Nat} (hs : ∀ i, (l.getD i dIt).text.size ≤ 1000) : ∀ j, (joinT l ks j).size ≤ j * 1000
  | 0 => by simp [joinT]
  | j + 1 => by
    have h1 := joinT_size (ks := ks) hs j
    have h2 := hs (ks.getD j 0)
    unfold joinT
    rw [ByteArray.size_append]
    omega
theorem strCells_app (a b : ByteArray) : Lib.strCells (a ++ b) = Lib.strCells a ++ Lib.strCells b := by
  unfold Lib.strCells
  rw [ByteArray.data_append, Array.toList_append, List.map_append]
set_option maxRecDepth 100000 in
set_option maxHeartbeats 3200000 in
theorem implTextIn_any (bi oi n c k : Nat) (l : List It) (w : World) (hT : Tabs w) (h : ItsAt w (some ⟨bi, oi, none⟩) n c l) (hc : treeCode l = 0) (hk : k < n) (hs : ∀ i, (l.getD i dIt).text.size ≤ 1000) :
    Calls Tryz.prog 77 #[.slice (some ⟨bi, oi, none⟩) n c, .int .i64 (k : Int)] w (TxtRes w (inC l (kidsUp l l.length k)) (inT l (kidsUp l l.length k))) := by
  have hl := h.len
  have hn40 := (rises_of hc).few
  have KN := Lib.hid (fun W (hW : Below w.heap.size w W) => nodeAt_any bi oi n c k l W (tabs_kept hT hW) (h.below hW) hc hk)
  have hkl : k < l.length := by omega
  have hks : (kidsUp l l.length k).length ≤ 40 := by have := kidsUp_len l l.length k; omega
  obtain ⟨b0, o0, e0, hI⟩ := h.row.resolve_left (by omega)
  cases e0
  have HI : Hid (∀ i, i < l.length → ItAt w bi (oi + i * 5) (l.getD i dIt)) := Lib.hid fun i hi => hI i (by omega)
  have hbi : bi < w.heap.size := (hI k hk).lt
  have HS := Lib.hid hs
  unfold NodeAtRes at KN
  unfold TxtRes
  obtain ⟨ks, hks0⟩ : ∃ ks, kidsUp l l.length k = ks := ⟨_, rfl⟩
  rw [hks0] at hks ⊢
  have HNOT : Hid (∀ j, j < ks.length → isTx l ks j = false → inC l ks = 1 ∧ inT l ks = ⟨#[]⟩) := Lib.hid fun j h1 h2 => in_no h1 h2
  have HYES : Hid ((∀ j, j < ks.length → isTx l ks j = true) → inC l ks = (if 60 < (joinT l ks ks.length).size then 2 else 0) ∧ inT l ks = (if 60 < (joinT l ks ks.length).size then ⟨#[]⟩ else joinT l ks ks.length)) := Lib.hid in_yes
  generalize inC l ks = cd at HNOT HYES ⊢
  generalize inT l ks = tx at HNOT HYES ⊢
  have HKS := Lib.hid hks0
  clear h hT hl hc hks0 hs hI
  have hty := isText_yes
  have htn := isText_no
  have hey := isElem_yes
  go_enter Tryz.func77, Tryz.ntmps77
  go_wp2_with fail
  refine (KN.out _ (below1 _ _)).mono ?_
  rintro e w1 ⟨B, nb, KA, KNN, KC, rfl, hB, hN, hb1⟩
  have p2 := hN.c2 k hkl
  obtain ⟨hkn, hrow⟩ := hN.kidAt hkl
  rw [HKS.out] at hkn hrow
  have hz := hb1.size
  simp at hz
  replace hz : w.heap.size < w1.heap.size := by omega
  obtain ⟨hcc, hff⟩ := bcell hb1
  have HB1 := Lib.hid (below_then (below1 _ _) hb1)
  have hRC : ∀ W, Below w1.heap.size w1 W → (W.cell? ⟨w.heap.size, 0, none⟩ = some (.int .i64 0) ∧ W.cell? ⟨w.heap.size, 1, none⟩ = some (.string ByteArray.empty) ∧ W.frozen? ⟨w.heap.size, 0, none⟩ = false ∧ W.frozen? ⟨w.heap.size, 1, none⟩ = false) := fun W hb => by
    refine ⟨?_, ?_, ?_, ?_⟩
    · exact (hb.cell (p := ⟨w.heap.size, 0, none⟩) hz).trans ((hcc _ _ (by simp)).trans (by go_simp; try rfl))
    · exact (hb.cell (p := ⟨w.heap.size, 1, none⟩) hz).trans ((hcc _ _ (by simp)).trans (by go_simp; try rfl))
    · exact (hb.frozen (p := ⟨w.heap.size, 0, none⟩) hz).trans ((hff _ _ (by simp)).trans (by go_simp; try rfl))
    · exact (hb.frozen (p := ⟨w.heap.size, 1, none⟩) hz).trans ((hff _ _ (by simp)).trans (by go_simp; try rfl))
  have HRC := Lib.hid hRC
  have HN0 : Hid (∀ j, j < l.length → nb j < w1.heap.size ∧ w1.cell? ⟨nb j, 0, none⟩ = some (partV bi oi (l.getD j dIt) j)) := Lib.hid fun j hj => ⟨(hN.lt j hj).2, hN.c0 j hj⟩
  have HROW := Lib.hid hrow
  have HKN := Lib.hid hkn
  clear hRC hcc hff hb1 hN KN hrow
  have hk40 : KNN k ≤ 40 := by omega
  clear hkn
  generalize KNN k = m at p2 HKN HROW hk40
  generalize KA k = ka at p2 HROW
  generalize KC k = kc at p2
  unfold ptrN
  unfold ptrN at HROW
  have p2 := ((below1 w1 (.cells #[.pointer none, .slice none 0 0] 136)).cell (World.block_lt_of_cell? _ _ p2)).trans p2
  go_wp2
  go_loopw [27] (fun i wr => ∃ j : Nat, j ≤ m ∧ i = .int .i64 (j : Int) ∧ (∀ i, i < j → isTx l ks i = true) ∧ IsB wr w1.heap.size w1.heap.size (Lib.strCells (joinT l ks j)) ∧ Below w1.heap.size w1 wr ∧ w1.heap.size < wr.heap.size) (fun i _ => m - (intOf i).toNat)
  case atStart => exact ⟨0, Nat.zero_le _, rfl, fun i hi => by omega, Lib.IsBuilderF.of (Lib.fresh_isBuilder _ _ w1), below1 _ _, by simp⟩
  case round =>
    obtain ⟨j, hj, rfl, hall, hib, hb, hsz⟩ := hrel
    have HA := Lib.hid hall
    have HIB := Lib.hid hib
    have HB := Lib.hid hb
    clear hall hib hb p2
    obtain ⟨r0, r1, f0, f1⟩ := HRC.out wr HB.out
    have hjs := joinT_size (ks := ks) HS.out j
    by_cases hlt : j < m
    · obtain ⟨g, rfl, hg, hat⟩ := HROW.out.resolve_left (by omega)
      obtain ⟨c0, hkid⟩ := hat j hlt
      have d0 := (HB.out.cell (p := ⟨g, j, none⟩) hg).trans c0
      obtain ⟨hnl, c1⟩ := HN0.out _ hkid
      have d1 := (HB.out.cell (p := ⟨nb (ks.getD j 0), 0, none⟩) hnl).trans c1
      have q0 : (j : Int) < (m : Int) := by omega
      have hit := (HI.out _ hkid).below (HB1.out.trans (HB.out.mono HB1.out.size))
      have d2 := hit.c1
      have hst := HS.out (ks.getD j 0)
      have HNO2 := Lib.hid (HNOT.out j (by have := HKN.out; omega))
      have HYE2 : Hid (isTx l ks j = true → ∀ i, i < j + 1 → isTx l ks i = true) := Lib.hid fun e i hi => by
        rcases Nat.lt_or_ge i j with h | h
        · exact HA.out i h
        · obtain rfl : i = j := by omega
          exact e
      have HJN : Hid (joinT l ks (j + 1) = joinT l ks j ++ (l.getD (ks.getD j 0) dIt).text) := Lib.hid rfl
      unfold isTx at HNO2
      have HIX : Hid (isTx l ks j = (l.getD (ks.getD j 0) dIt).name.toList.isEmpty) := Lib.hid rfl
      unfold partV at d1
      clear hat c0 c1 hit
      generalize ks.getD j 0 = x at d0 d1 d2 hnl hkid hst HNO2 HJN HIX
      generalize l.getD x dIt = y at d1 d2 hst HNO2 HJN HIX
      cases hye : y.name.toList.isEmpty
      · obtain ⟨rfl, rfl⟩ := HNO2.out hye
        rw [hye, if_neg (by simp)] at d1
        clear HNO2 HYE2 HJN HIX
        have hzr : w.heap.size < wr.heap.size := by omega
        have b0 : (wr.alloc (.cells #[.pointer (some ⟨bi, oi + x * 5, none⟩)] 88)).cell? ⟨w.heap.size, 0, none⟩ = some (.int .i64 0) := ((below1 wr _).cell hzr).trans r0
        have b1 : (wr.alloc (.cells #[.pointer (some ⟨bi, oi + x * 5, none⟩)] 88)).cell? ⟨w.heap.size, 1, none⟩ = some (.string ByteArray.empty) := ((below1 wr _).cell hzr).trans r1
        have k0 : (wr.alloc (.cells #[.pointer (some ⟨bi, oi + x * 5, none⟩)] 88)).frozen? ⟨w.heap.size, 0, none⟩ = false := ((below1 wr _).frozen hzr).trans f0
        have k1 : (wr.alloc (.cells #[.pointer (some ⟨bi, oi + x * 5, none⟩)] 88)).frozen? ⟨w.heap.size, 1, none⟩ = false := ((below1 wr _).frozen hzr).trans f1
        have HB3 := Lib.hid (HB1.out.trans ((HB.out.trans ((below1 wr (.cells #[.pointer (some ⟨bi, oi + x * 5, none⟩)] 88)).mono HB.out.size)).mono HB1.out.size))
        go_upto_region 14 with fail
        clear r0 r1 f0 f1 d0 d1 d2
        generalize wr.alloc (.cells #[.pointer (some ⟨bi, oi + x * 5, none⟩)] 88) = W3 at b0 b1 k0 k1 HB3 ⊢
        go_wp2
        exact bodyPost_ret (v := .agg #[.int .i64 1, .string ⟨#[]⟩]) (by simp [results, Tryz.results77, go_sem, (two_set (.int .i64 1) (.string ⟨#[]⟩) b0 b1).1, (two_set (.int .i64 1) (.string ⟨#[]⟩) b0 b1).2]) rfl ⟨rfl, (HB3.out.setCell (Nat.le_refl _) _).setCell (Nat.le_refl _) _⟩
      · rw [hye, if_pos rfl] at d1
        have HX := Lib.hid (HYE2.out (HIX.out.trans hye))
        clear HNO2 HYE2 HIX
        have hw3 : w1.heap.size ≤ (wr.alloc (.cells #[.pointer (some ⟨bi, oi + x * 5, none⟩)] 87)).heap.size := by simp; omega
        have hlen : (Lib.strCells (joinT l ks j)).length ≤ 1000000 := by rw [Lib.strCells_length]; omega
        have d2 := ((below1 wr (.cells #[.pointer (some ⟨bi, oi + x * 5, none⟩)] 87)).cell (p := ⟨bi, oi + x * 5 + 1, none⟩) (World.block_lt_of_cell? _ _ d2)).trans d2
        go_wp2_with fail
        refine (writeString_any w1.heap.size w1.heap.size _ y.text _ (HIB.out.alloc _) (Nat.le_trans hlen (by decide)) (by omega) hw3).mono ?_
        rintro e w2 ⟨rfl, hat2, hb2, _⟩
        have hs2 := hb2.size
        have HB2 := Lib.hid ((HB.out.trans ((below1 wr (.cells #[.pointer (some ⟨bi, oi + x * 5, none⟩)] 87)).mono HB.out.size)).trans hb2)
        have HAT2 := Lib.hid hat2
        simp at hs2
        clear hat2 hb2 d0 d1 d2
        go_wp2
        go_roundw
        case rel => exact ⟨j + 1, by omega, by go_num, HX.out, .inr (by rw [HJN.out, strCells_app]; exact HAT2.out), HB2.out, by omega⟩
        case measure => simp [intOf]; omega
    · obtain rfl : j = m := by omega
      have hw3 : w1.heap.size ≤ wr.heap.size := by omega
      have hy := HYES.out fun i hi => HA.out i (by have := HKN.out; omega)
      rw [← HKN.out] at hy
      have HY := Lib.hid hy
      have KL := Lib.hid (Tryz.Builder_Len_f w1.heap.size w1.heap.size _ wr HIB.out)
      have KS := Lib.hid (Tryz.Builder_String_any_f w1.heap.size w1.heap.size (joinT l ks j).data.toList wr HIB.out hw3)
      have hb9 : (⟨(joinT l ks j).data.toList.toArray⟩ : ByteArray) = joinT l ks j := by cases joinT l ks j; simp
      rw [hb9] at KS
      rw [Lib.strCells_length] at KL
      clear hy HYES HNOT hb9 HIB
      generalize joinT l ks j = t at hjs HY KL KS
      go_wp2_with fail
      refine KL.out.mono ?_
      rintro e w2 ⟨rfl, rfl⟩
      by_cases h60 : 60 < t.size
      · have hy := HY.out
        rw [if_pos h60, if_pos h60] at hy
        obtain ⟨rfl, rfl⟩ := hy
        have q6 : (60 : Int) < (t.size : Int) := by omega
        clear HY KS KL
        go_wp2
        exact bodyPost_ret (v := .agg #[.int .i64 2, .string ⟨#[]⟩]) (by simp [results, Tryz.results77, go_sem, (two_set (.int .i64 2) (.string ⟨#[]⟩) r0 r1).1, (two_set (.int .i64 2) (.string ⟨#[]⟩) r0 r1).2]) rfl ⟨rfl, ((HB1.out.trans (HB.out.mono HB1.out.size)).setCell (Nat.le_refl _) _).setCell (Nat.le_refl _) _⟩
      · have hy := HY.out
        rw [if_neg h60, if_neg h60] at hy
        have q6 : ¬ (60 : Int) < (t.size : Int) := by omega
        obtain ⟨rfl, rfl⟩ := hy
        clear HY KL
        go_wp2_with fail
        refine KS.out.mono ?_
        rintro e w3 ⟨rfl, _, hb3⟩
        have HB4 := Lib.hid (HB.out.trans hb3)
        obtain ⟨b0, b1, k0, k1⟩ := HRC.out w3 HB4.out
        clear hb3 r0 r1 f0 f1
        go_wp2
        exact bodyPost_ret (v := .agg #[.int .i64 0, .string tx]) (by simp [results, Tryz.results77, go_sem, (two_set (.int .i64 0) (.string tx) b0 b1).1, (two_set (.int .i64 0) (.string tx) b0 b1).2]) rfl ⟨rfl, ((HB1.out.trans (HB4.out.mono HB1.out.size)).setCell (Nat.le_refl _) _).setCell (Nat.le_refl _) _⟩
end Go.Proofs.YtjkmgpomcnplnaaGreatDoor
