/- impl.TextIn at a tree without fault. -/
import Derived.Test.YticpebpicdboaaaGreatDoorGY25
import Derived.Test.YticpebpicdboaaaGreatDoorGY24
import Derived.Test.YticpebpicdboaaaGreatDoorGY18
import Derived.Test.YticpebpicdboaaaGreatDoorGY14
import Derived.Test.YticpebpicdboaaaGreatDoorGY11
import Derived.Test.YticpebpicdboaaaGreatDoorGY8
namespace Go.Proofs.YticpebpicdboaaaGreatDoor
open Go.ChangeShapes Go.WideShapes Go.ChangeAt Go.RowKit Go.Shelf
set_option linter.unusedVariables false

/-- the texts of the first kids, one behind the other -/
def joinT (l : List It) (ks : List Nat) : Nat → ByteArray
  | 0 => ByteArray.empty
  | j + 1 => joinT l ks j ++ (l.getD (ks.getD j 0) dIt).text
def isTx (l : List It) (ks : List Nat) (j : Nat) : Bool := (l.getD (ks.getD j 0) dIt).name.toList.isEmpty
/-- the code and the text of what is in a node -/
def inC (l : List It) (ks : List Nat) : Int := if (List.range ks.length).all (isTx l ks) then (if 60 < (joinT l ks ks.length).size then 2 else 0) else 1
def inT (l : List It) (ks : List Nat) : ByteArray := if (List.range ks.length).all (isTx l ks) then (if 60 < (joinT l ks ks.length).size then ⟨#[]⟩ else joinT l ks ks.length) else ⟨#[]⟩
theorem in_no {l : List It} {ks : List Nat} {j : Nat} (hj : j < ks.length) (h : isTx l ks j = false) : inC l ks = 1 ∧ inT l ks = ⟨#[]⟩ := by
  have e : (List.range ks.length).all (isTx l ks) = false := by
    rw [List.all_eq_false]
    exact ⟨j, List.mem_range.2 hj, by rw [h]; simp⟩
  unfold inC inT
  rw [e]
  exact ⟨rfl, rfl⟩
theorem in_yes {l : List It} {ks : List Nat} (h : ∀ j, j < ks.length → isTx l ks j = true) : inC l ks = (if 60 < (joinT l ks ks.length).size then 2 else 0) ∧ inT l ks = (if 60 < (joinT l ks ks.length).size then ⟨#[]⟩ else joinT l ks ks.length) := by
  have e : (List.range ks.length).all (isTx l ks) = true := by
    rw [List.all_eq_true]
    exact fun j hj => h j (List.mem_range.1 hj)
  unfold inC inT
  rw [e]
  exact ⟨rfl, rfl⟩
theorem joinT_size {l : List It} {ks : List Nat} (hs : ∀ i, (l.getD i dIt).text.size ≤ 1000) : ∀ j, (joinT l ks j).size ≤ j * 1000
  | 0 => by simp [joinT]
  | j + 1 => by
    have h1 := joinT_size (ks := ks) hs j
    have h2 := hs (ks.getD j 0)
    unfold joinT
    rw [ByteArray.size_append]
    omega
theorem strCells_app (a b : ByteArray) : Lib.strCells (a ++ b) = Lib.strCells a ++ Lib.strCells b := by
  unfold Lib.strCells
  rw [ByteArray.data_append, Array.toList_append, List.map_append]

set_option maxRecDepth 100000 in
set_option maxHeartbeats 3200000 in
theorem implTextIn_any (bi oi n c k : Nat) (l : List It) (w : World) (hT : Tabs w) (h : ItsAt w (some ⟨bi, oi, none⟩) n c l) (hc : treeCode l = 0) (hk : k < n) (hs : ∀ i, (l.getD i dIt).text.size ≤ 1000) :
    Calls Tryz.prog 152 #[.slice (some ⟨bi, oi, none⟩) n c, .int .i64 (k : Int)] w (TxtRes w (inC l (kidsUp l l.length k)) (inT l (kidsUp l l.length k))) := by
  have hl := h.len
  have hn40 := (rises_of hc).few
  have KN := Lib.hid (fun W (hW : Below w.heap.size w W) => nodeAt_any bi oi n c k l W (tabs_kept hT hW) (h.below hW) hc hk)
  have hkl : k < l.length := by omega
  have hks : (kidsUp l l.length k).length ≤ 40 := by have := kidsUp_len l l.length k; omega
  obtain ⟨b0, o0, e0, hI⟩ := h.row.resolve_left (by omega)
  cases e0
  have HI : Hid (∀ i, i < l.length → ItAt w bi (oi + i * 5) (l.getD i dIt)) := Lib.hid fun i hi => hI i (by omega)
  have hbi : bi < w.heap.size := (hI k hk).lt
  have HS := Lib.hid hs
  unfold NodeAtRes at KN
  unfold TxtRes
  obtain ⟨ks, hks0⟩ : ∃ ks, kidsUp l l.length k = ks := ⟨_, rfl⟩
  rw [hks0] at hks ⊢
  have HNOT : Hid (∀ j, j < ks.length → isTx l ks j = false → inC l ks = 1 ∧ inT l ks = ⟨#[]⟩) := Lib.hid fun j h1 h2 => in_no h1 h2
  have HYES : Hid ((∀ j, j < ks.length → isTx l ks j = true) → inC l ks = (if 60 < (joinT l ks ks.length).size then 2 else 0) ∧ inT l ks = (if 60 < (joinT l ks ks.length).size then ⟨#[]⟩ else joinT l ks ks.length)) := Lib.hid in_yes
  generalize inC l ks = cd at HNOT HYES ⊢
  generalize inT l ks = tx at HNOT HYES ⊢
  have HKS := Lib.hid hks0
  clear h hT hl hc hks0 hs hI
  have hty := isText_yes
  have htn := isText_no
  have hey := isElem_yes
  go_enter Tryz.func152, Tryz.ntmps152
  go_wp2_with fail
  refine (KN.out _ (below1 _ _)).mono ?_
  rintro e w1 ⟨B, nb, KA, KNN, KC, rfl, hB, hN, hb1⟩
  have p2 := hN.c2 k hkl
  obtain ⟨hkn, hrow⟩ := hN.kidAt hkl
  rw [HKS.out] at hkn hrow
  have hz := hb1.size
  simp at hz
  replace hz : w.heap.size < w1.heap.size := by omega
  obtain ⟨hcc, hff⟩ := bcell hb1
  have HB1 := Lib.hid (below_then (below1 _ _) hb1)
  have hRC : ∀ W, Below w1.heap.size w1 W → (W.cell? ⟨w.heap.size, 0, none⟩ = some (.int .i64 0) ∧ W.cell? ⟨w.heap.size, 1, none⟩ = some (.string ByteArray.empty) ∧ W.frozen? ⟨w.heap.size, 0, none⟩ = false ∧ W.frozen? ⟨w.heap.size, 1, none⟩ = false) := fun W hb => by
    refine ⟨?_, ?_, ?_, ?_⟩
    · exact (hb.cell (p := ⟨w.heap.size, 0, none⟩) hz).trans ((hcc _ _ (by simp)).trans (by go_simp; try rfl))
    · exact (hb.cell (p := ⟨w.heap.size, 1, none⟩) hz).trans ((hcc _ _ (by simp)).trans (by go_simp; try rfl))
    · exact (hb.frozen (p := ⟨w.heap.size, 0, none⟩) hz).trans ((hff _ _ (by simp)).trans (by go_simp; try rfl))
    · exact (hb.frozen (p := ⟨w.heap.size, 1, none⟩) hz).trans ((hff _ _ (by simp)).trans (by go_simp; try rfl))
  have HRC := Lib.hid hRC
  have HN0 : Hid (∀ j, j < l.length → nb j < w1.heap.size ∧ w1.cell? ⟨nb j, 0, none⟩ = some (partV bi oi (l.getD j dIt) j)) := Lib.hid fun j hj => ⟨(hN.lt j hj).2, hN.c0 j hj⟩
  have HROW := Lib.hid hrow
  have HKN := Lib.hid hkn
  clear hRC hcc hff hb1 hN KN hrow
  have hk40 : KNN k ≤ 40 := by omega
  clear hkn
  generalize KNN k = m at p2 HKN HROW hk40
  generalize KA k = ka at p2 HROW
  generalize KC k = kc at p2
  unfold ptrN
  unfold ptrN at HROW
  have p2 := ((below1 w1 (.cells #[.pointer none, .slice none 0 0] 198)).cell (World.block_lt_of_cell? _ _ p2)).trans p2
  go_wp2
  go_loopw [27] (fun i wr => ∃ j : Nat, j ≤ m ∧ i = .int .i64 (j : Int) ∧ (∀ i, i < j → isTx l ks i = true) ∧ IsB wr w1.heap.size w1.heap.size (Lib.strCells (joinT l ks j)) ∧ Below w1.heap.size w1 wr ∧ w1.heap.size < wr.heap.size) (fun i _ => m - (intOf i).toNat)
  case atStart => exact ⟨0, Nat.zero_le _, rfl, fun i hi => by omega, Lib.IsBuilderF.of (Lib.fresh_isBuilder _ _ w1), below1 _ _, by simp⟩
  case round =>
    obtain ⟨j, hj, rfl, hall, hib, hb, hsz⟩ := hrel
    have HA := Lib.hid hall
    have HIB := Lib.hid hib
    have HB := Lib.hid hb
    clear hall hib hb p2
    obtain ⟨r0, r1, f0, f1⟩ := HRC.out wr HB.out
    have hjs := joinT_size (ks := ks) HS.out j
    by_cases hlt : j < m
    · obtain ⟨g, rfl, hg, hat⟩ := HROW.out.resolve_left (by omega)
      obtain ⟨c0, hkid⟩ := hat j hlt
      have d0 := (HB.out.cell (p := ⟨g, j, none⟩) hg).trans c0
      obtain ⟨hnl, c1⟩ := HN0.out _ hkid
      have d1 := (HB.out.cell (p := ⟨nb (ks.getD j 0), 0, none⟩) hnl).trans c1
      have q0 : (j : Int) < (m : Int) := by omega
      have hit := (HI.out _ hkid).below (HB1.out.trans (HB.out.mono HB1.out.size))
      have d2 := hit.c1
      have hst := HS.out (ks.getD j 0)
      have HNO2 := Lib.hid (HNOT.out j (by have := HKN.out; omega))
      have HYE2 : Hid (isTx l ks j = true → ∀ i, i < j + 1 → isTx l ks i = true) := Lib.hid fun e i hi => by
        rcases Nat.lt_or_ge i j with h | h
        · exact HA.out i h
        · obtain rfl : i = j := by omega
          exact e
      have HJN : Hid (joinT l ks (j + 1) = joinT l ks j ++ (l.getD (ks.getD j 0) dIt).text) := Lib.hid rfl
      unfold isTx at HNO2
      have HIX : Hid (isTx l ks j = (l.getD (ks.getD j 0) dIt).name.toList.isEmpty) := Lib.hid rfl
      unfold partV at d1
      clear hat c0 c1 hit
      generalize ks.getD j 0 = x at d0 d1 d2 hnl hkid hst HNO2 HJN HIX
      generalize l.getD x dIt = y at d1 d2 hst HNO2 HJN HIX
      cases hye : y.name.toList.isEmpty
      · obtain ⟨rfl, rfl⟩ := HNO2.out hye
        rw [hye, if_neg (by simp)] at d1
        clear HNO2 HYE2 HJN HIX
        have hzr : w.heap.size < wr.heap.size := by omega
        have b0 : (wr.alloc (.cells #[.pointer (some ⟨bi, oi + x * 5, none⟩)] 152)).cell? ⟨w.heap.size, 0, none⟩ = some (.int .i64 0) := ((below1 wr _).cell hzr).trans r0
        have b1 : (wr.alloc (.cells #[.pointer (some ⟨bi, oi + x * 5, none⟩)] 152)).cell? ⟨w.heap.size, 1, none⟩ = some (.string ByteArray.empty) := ((below1 wr _).cell hzr).trans r1
        have k0 : (wr.alloc (.cells #[.pointer (some ⟨bi, oi + x * 5, none⟩)] 152)).frozen? ⟨w.heap.size, 0, none⟩ = false := ((below1 wr _).frozen hzr).trans f0
        have k1 : (wr.alloc (.cells #[.pointer (some ⟨bi, oi + x * 5, none⟩)] 152)).frozen? ⟨w.heap.size, 1, none⟩ = false := ((below1 wr _).frozen hzr).trans f1
        have HB3 := Lib.hid (HB1.out.trans ((HB.out.trans ((below1 wr (.cells #[.pointer (some ⟨bi, oi + x * 5, none⟩)] 152)).mono HB.out.size)).mono HB1.out.size))
        go_upto_region 14 with fail
        clear r0 r1 f0 f1 d0 d1 d2
        generalize wr.alloc (.cells #[.pointer (some ⟨bi, oi + x * 5, none⟩)] 152) = W3 at b0 b1 k0 k1 HB3 ⊢
        go_wp2
        exact bodyPost_ret (v := .agg #[.int .i64 1, .string ⟨#[]⟩]) (by simp [results, Tryz.results152, go_sem, (two_set (.int .i64 1) (.string ⟨#[]⟩) b0 b1).1, (two_set (.int .i64 1) (.string ⟨#[]⟩) b0 b1).2]) rfl ⟨rfl, (HB3.out.setCell (Nat.le_refl _) _).setCell (Nat.le_refl _) _⟩
      · rw [hye, if_pos rfl] at d1
        have HX := Lib.hid (HYE2.out (HIX.out.trans hye))
        clear HNO2 HYE2 HIX
        have hw3 : w1.heap.size ≤ (wr.alloc (.cells #[.pointer (some ⟨bi, oi + x * 5, none⟩)] 151)).heap.size := by simp; omega
        have hlen : (Lib.strCells (joinT l ks j)).length ≤ 1000000 := by rw [Lib.strCells_length]; omega
        have d2 := ((below1 wr (.cells #[.pointer (some ⟨bi, oi + x * 5, none⟩)] 151)).cell (p := ⟨bi, oi + x * 5 + 1, none⟩) (World.block_lt_of_cell? _ _ d2)).trans d2
        go_wp2_with fail
        refine (writeString_any w1.heap.size w1.heap.size _ y.text _ (HIB.out.alloc _) (Nat.le_trans hlen (by decide)) (by omega) hw3).mono ?_
        rintro e w2 ⟨rfl, hat2, hb2, _⟩
        have hs2 := hb2.size
        have HB2 := Lib.hid ((HB.out.trans ((below1 wr (.cells #[.pointer (some ⟨bi, oi + x * 5, none⟩)] 151)).mono HB.out.size)).trans hb2)
        have HAT2 := Lib.hid hat2
        simp at hs2
        clear hat2 hb2 d0 d1 d2
        go_wp2
        go_roundw
        case rel => exact ⟨j + 1, by omega, by go_num, HX.out, .inr (by rw [HJN.out, strCells_app]; exact HAT2.out), HB2.out, by omega⟩
        case measure => simp [intOf]; omega
    · obtain rfl : j = m := by omega
      have hw3 : w1.heap.size ≤ wr.heap.size := by omega
      have hy := HYES.out fun i hi => HA.out i (by have := HKN.out; omega)
      rw [← HKN.out] at hy
      have HY := Lib.hid hy
      have KL := Lib.hid (Tryz.Builder_Len_f w1.heap.size w1.heap.size _ wr HIB.out)
      have KS := Lib.hid (Tryz.Builder_String_any_f w1.heap.size w1.heap.size (joinT l ks j).data.toList wr HIB.out hw3)
      have hb9 : (⟨(joinT l ks j).data.toList.toArray⟩ : ByteArray) = joinT l ks j := by cases joinT l ks j; simp
      rw [hb9] at KS
      rw [Lib.strCells_length] at KL
      clear hy HYES HNOT hb9 HIB
      generalize joinT l ks j = t at hjs HY KL KS
      go_wp2_with fail
      refine KL.out.mono ?_
      rintro e w2 ⟨rfl, rfl⟩
      by_cases h60 : 60 < t.size
      · have hy := HY.out
        rw [if_pos h60, if_pos h60] at hy
        obtain ⟨rfl, rfl⟩ := hy
        have q6 : (60 : Int) < (t.size : Int) := by omega
        clear HY KS KL
        go_wp2
        exact bodyPost_ret (v := .agg #[.int .i64 2, .string ⟨#[]⟩]) (by simp [results, Tryz.results152, go_sem, (two_set (.int .i64 2) (.string ⟨#[]⟩) r0 r1).1, (two_set (.int .i64 2) (.string ⟨#[]⟩) r0 r1).2]) rfl ⟨rfl, ((HB1.out.trans (HB.out.mono HB1.out.size)).setCell (Nat.le_refl _) _).setCell (Nat.le_refl _) _⟩
      · have hy := HY.out
        rw [if_neg h60, if_neg h60] at hy
        have q6 : ¬ (60 : Int) < (t.size : Int) := by omega
        obtain ⟨rfl, rfl⟩ := hy
        clear HY KL
        go_wp2_with fail
        refine KS.out.mono ?_
        rintro e w3 ⟨rfl, _, hb3⟩
        have HB4 := Lib.hid (HB.out.trans hb3)
        obtain ⟨b0, b1, k0, k1⟩ := HRC.out w3 HB4.out
        clear hb3 r0 r1 f0 f1
        go_wp2
        exact bodyPost_ret (v := .agg #[.int .i64 0, .string tx]) (by simp [results, Tryz.results152, go_sem, (two_set (.int .i64 0) (.string tx) b0 b1).1, (two_set (.int .i64 0) (.string tx) b0 b1).2]) rfl ⟨rfl, ((HB1.out.trans (HB4.out.mono HB1.out.size)).setCell (Nat.le_refl _) _).setCell (Nat.le_refl _) _⟩
end Go.Proofs.YticpebpicdboaaaGreatDoor

/- The text of a node's kids is the model's text of an item. -/
namespace Go.Proofs.YticpebpicdboaaaGreatDoor
open Go.ChangeShapes Go.WideShapes Go.ChangeAt Go.RowKit
set_option linter.unusedVariables false

theorem two_texts {l : List It} (h : treeCode l = 0) {i : Nat} (h1 : 1 ≤ i) (hi : i < l.length) (ha : (l.getD (i - 1) dIt).name.toList.isEmpty = true) (hb : (l.getD i dIt).name.toList.isEmpty = true) : dp l i ≠ dp l (i - 1) := by
  have hg := fun j (hj : j < l.length) => good_item h hj
  unfold treeCode at h
  split at h
  · omega
  · rw [find_no l dIt _ fun j hj => by simp only [hg j hj]; decide] at h
    have hs : stands l = true := by
      cases e : stands l
      · rw [e] at h; simp at h
      · rfl
    unfold stands at hs
    simp only [Bool.and_eq_true, List.all_eq_true, decide_eq_true_eq] at hs
    obtain ⟨_, hall⟩ := hs
    have := hall i (List.mem_range.2 hi)
    rw [Bool.or_eq_true, beq_iff_eq] at this
    rcases this with g | g
    · omega
    · unfold mayStand standB at g
      rw [Bool.not_eq_true', Bool.or_eq_false_iff, Bool.or_eq_false_iff, Bool.or_eq_false_iff] at g
      obtain ⟨_, g4⟩ := g
      rw [ha, hb] at g4
      simp at g4
      exact g4
theorem text_size {x : It} (h : itemCode x = 0) (he : x.name.toList.isEmpty = true) : x.text.size ≤ 60 := by
  unfold itemCode at h
  split at h
  · omega
  · try rw [if_pos he] at h
    unfold textCode at h
    split at h
    · omega
    · unfold textFault at h
      split at h
      · omega
      · rename_i h2
        simp at h2
        exact h2
theorem in_elem {l : List It} {ks : List Nat} {b : Nat} (hb : b ∈ ks) (he : (l.getD b dIt).name.toList.isEmpty = false) : inC l ks = 1 ∧ inT l ks = ⟨#[]⟩ := by
  obtain ⟨j, hj, e⟩ := List.mem_iff_getElem.1 hb
  refine in_no hj ?_
  have e2 : ks.getD j 0 = b := by rw [List.getD_eq_getElem?_getD, List.getElem?_eq_getElem hj, Option.getD_some, e]
  unfold isTx
  rw [e2]
  exact he
theorem in_text {l : List It} (h : treeCode l = 0) {a : Nat} (ha : a < l.length) :
    inC l (kidsUp l l.length a) = (if (textL l a).isSome then 0 else 1) ∧ inT l (kidsUp l l.length a) = txtT (textL l a) := by
  have R := rises_of h
  have hbd := endL_bounds ha
  have hks := kids_same R ha
  have hmem : ∀ b, b < l.length → a < b → b < endL l a → dp l b = dp l a + 1 → b ∈ kidsUp l l.length a := fun b hb h1 h2 h3 => by
    unfold kidsUp
    rw [List.mem_filter, List.mem_range]
    exact ⟨hb, (kid_iff R ha hb).2 ⟨h1, h2, h3⟩⟩
  unfold kidsL kidsTo at hks
  unfold textL
  rcases Nat.lt_or_ge (a + 1) (endL l a) with g | g
  · have hb : a + 1 < l.length := by omega
    have d1 := endL_in (l := l) (a := a) (i := a + 1) (by omega) g
    have d2 := (R.step (a + 1) (by omega) hb).2
    rw [Nat.add_sub_cancel] at d2
    have d3 : dp l (a + 1) = dp l a + 1 := by omega
    obtain ⟨f, hf⟩ : ∃ f, endL l a - (a + 1) = f + 1 := ⟨endL l a - (a + 1) - 1, by omega⟩
    cases hn : (l.getD (a + 1) dIt).name.toList.isEmpty
    · obtain ⟨e1, e2⟩ := in_elem (hmem (a + 1) hb (by omega) g d3) hn
      rw [hf, e1, e2, textF, hn]
      exact ⟨rfl, rfl⟩
    · rcases Nat.lt_or_ge (a + 2) (endL l a) with g2 | g2
      · have hb2 : a + 2 < l.length := by omega
        have c1 := endL_in (l := l) (a := a) (i := a + 2) (by omega) g2
        have c2 := R.text (a + 2) (by omega) hb2 (by rw [show a + 2 - 1 = a + 1 from by omega]; exact hn)
        rw [show a + 2 - 1 = a + 1 from by omega] at c2
        have hn2 : (l.getD (a + 2) dIt).name.toList.isEmpty = false := by
          cases e : (l.getD (a + 2) dIt).name.toList.isEmpty
          · rfl
          · have := two_texts h (i := a + 2) (by omega) hb2 (by rw [show a + 2 - 1 = a + 1 from by omega]; exact hn) e
            rw [show a + 2 - 1 = a + 1 from by omega] at this
            omega
        obtain ⟨e1, e2⟩ := in_elem (hmem (a + 2) hb2 (by omega) g2 (by omega)) hn2
        obtain ⟨f2, rfl⟩ : ∃ f2, f = f2 + 1 := ⟨f - 1, by omega⟩
        rw [hf, e1, e2, textF, hn, if_pos rfl, textF, show a + 1 + 1 = a + 2 from rfl, hn2]
        exact ⟨rfl, rfl⟩
      · obtain rfl : f = 0 := by omega
        rw [hf] at hks ⊢
        have hq : ((l.getD (a + 1) dIt).depth == (l.getD a dIt).depth + 1) = true := by
          rw [beq_iff_eq]
          exact d3
        rw [List.range'_succ, List.range'_zero, List.filter_cons, if_pos hq, List.filter_nil, List.map_cons, List.map_nil, List.map_eq_singleton_iff] at hks
        obtain ⟨b, hb1, hb2⟩ := hks
        obtain rfl : b = a + 1 := by omega
        have hsz := text_size (good_item h hb) hn
        rw [hb1]
        obtain ⟨e1, e2⟩ := in_yes (l := l) (ks := [a + 1]) (fun j hj => by
          have : j = 0 := by simpa using hj
          subst this
          exact hn)
        have hj : joinT l [a + 1] [a + 1].length = ByteArray.empty ++ (l.getD (a + 1) dIt).text := rfl
        have hj2 : ¬ 60 < (joinT l [a + 1] [a + 1].length).size := by
          rw [hj, ByteArray.size_append]
          simp
          exact hsz
        rw [if_neg hj2] at e1 e2
        rw [e1, e2, textF, hn, if_pos rfl, textF]
        exact ⟨rfl, rfl⟩
  · have hf : endL l a - (a + 1) = 0 := by omega
    rw [hf] at hks ⊢
    rw [List.range'_zero, List.filter_nil, List.map_nil, List.map_eq_nil_iff] at hks
    rw [hks]
    exact ⟨rfl, rfl⟩
end Go.Proofs.YticpebpicdboaaaGreatDoor

/- What a tree says as a presence is small. -/
namespace Go.Proofs.YticpebpicdboaaaGreatDoor
open Go.ChangeShapes Go.WideShapes Go.ChangeAt Go.RowKit
set_option linter.unusedVariables false

theorem textL_size {l : List It} (h : treeCode l = 0) {a : Nat} (ha : a < l.length) {t : ByteArray} (ht : textL l a = some t) : t.size ≤ 60 := by
  obtain ⟨h1, h2⟩ := in_text h ha
  rw [ht] at h1 h2
  simp only [Option.isSome_some, if_true] at h1
  unfold txtT at h2
  dsimp only at h2
  unfold inC at h1
  unfold inT at h2
  by_cases hall : (List.range (kidsUp l l.length a).length).all (isTx l (kidsUp l l.length a)) = true
  · rw [if_pos hall] at h1 h2
    by_cases h60 : 60 < (joinT l (kidsUp l l.length a) (kidsUp l l.length a).length).size
    · rw [if_pos h60] at h1
      cases h1
    · rw [if_neg h60] at h2
      rw [← h2]
      omega
  · rw [if_neg hall] at h1
    cases h1
/-- the texts of a presence are short -/
structure ShortPr (p : Pr) : Prop where
  s1 : p.sender.size ≤ 60
  s2 : p.goal.size ≤ 60
  s4 : p.status.size ≤ 60
theorem atts_small {x : It} (hg : itemCode x = 0) : x.attrs.length ≤ 5 ∧ ∀ j, j < x.attrs.length → (x.attrs.getD j dAt).value.size ≤ 60 := by
  cases he : x.name.toList.isEmpty
  · unfold itemCode at hg
    split at hg
    · omega
    · rw [if_neg (by rw [he]; simp)] at hg
      unfold elemCode at hg
      split at hg
      · omega
      · split at hg
        · omega
        · split at hg
          · unfold attrsCode at hg
            split at hg
            · omega
            · rename_i h5
              refine ⟨by omega, fun j hj => ?_⟩
              cases hf : x.attrs.find? (fun x => atFault x != 0) with
              | some y =>
                rw [hf] at hg
                have := List.find?_some hf
                rw [bne_iff_ne] at this
                exact absurd hg this
              | none =>
                have h2 := List.find?_eq_none.1 hf (x.attrs.getD j dAt) (by rw [List.getD_eq_getElem?_getD, List.getElem?_eq_getElem hj]; exact List.getElem_mem hj)
                have h3 : atFault (x.attrs.getD j dAt) = 0 := by simpa using h2
                generalize x.attrs.getD j dAt = y at h3
                unfold atFault at h3
                split at h3
                · unfold textFault at h3
                  split at h3
                  · omega
                  · rename_i h6
                    simp at h6
                    exact h6
                · omega
          · rename_i h3
            exact absurd hg h3
  · have e := text_attrs hg he
    rw [e]
    exact ⟨by decide, fun j hj => by simp at hj⟩
/-- what a good item is -/
theorem atts_size {l : List It} (h : treeCode l = 0) {i : Nat} (hi : i < l.length) : (l.getD i dIt).attrs.length ≤ 5 ∧ ∀ j, j < (l.getD i dIt).attrs.length → ((l.getD i dIt).attrs.getD j dAt).value.size ≤ 60 := by
  have hg := good_item h hi
  generalize l.getD i dIt = x at hg
  exact atts_small hg
theorem rootOne_short {x : At} {p q : Pr} (hx : x.value.size ≤ 60) (hp : ShortPr p) (h : rootOne x p = some q) : ShortPr q := by
  unfold rootOne at h
  split at h
  · cases h; exact ⟨hx, hp.s2, hp.s4⟩
  · split at h
    · cases h; exact ⟨hp.s1, hx, hp.s4⟩
    · split at h
      · split at h
        · cases h
        · cases h; exact ⟨hp.s1, hp.s2, hp.s4⟩
      · cases h
theorem rootF_short {l : List At} (hl : ∀ i, i < l.length → (l.getD i dAt).value.size ≤ 60) : ∀ {f i : Nat} {p q : Pr}, i + f ≤ l.length → ShortPr p → rootF l f i p = some q → ShortPr q
  | 0, i, p, q, _, hp, h => by cases h; exact hp
  | f + 1, i, p, q, hif, hp, h => by
    cases h1 : rootOne (l.getD i dAt) p with
    | none => rw [rootF_stop h1] at h; cases h
    | some r =>
      rw [rootF_step h1] at h
      exact rootF_short hl (by omega) (rootOne_short (hl i (by omega)) hp h1) h
theorem dPr_short : ShortPr dPr := ⟨by decide, by decide, by decide⟩
theorem rootP_short {l : List It} (h : treeCode l = 0) (h0 : 0 < l.length) {q : Pr} (hq : rootP (l.getD 0 dIt) dPr = some q) : ShortPr q := by
  unfold rootP at hq
  split at hq
  · exact rootF_short (atts_size h h0).2 (by omega) dPr_short hq
  · cases hq
theorem rootP_rest {x : It} {q : Pr} (hq : rootP x dPr = some q) : q.more = [] := by
  unfold rootP at hq
  split at hq
  · exact (rootF_rest hq).2.2.2
  · cases hq
theorem partP_short {l : List It} (h : treeCode l = 0) {i : Nat} (hi : i < l.length) {p q : Pr} (hp : ShortPr p) (hq : partP l i p = some q) : ShortPr q ∧ q.more = p.more := by
  unfold partP at hq
  cases ht : textL l i with
  | none => rw [ht] at hq; cases hq
  | some t =>
    have h60 := textL_size h hi ht
    rw [ht] at hq
    dsimp only at hq
    split at hq
    · cases hq
    · split at hq
      · split at hq
        · cases hq
        · cases hq; exact ⟨⟨hp.s1, hp.s2, hp.s4⟩, rfl⟩
      · split at hq
        · cases hq; exact ⟨⟨hp.s1, hp.s2, h60⟩, rfl⟩
        · split at hq
          · split at hq
            · cases hq; exact ⟨⟨hp.s1, hp.s2, hp.s4⟩, rfl⟩
            · cases hq
          · cases hq
end Go.Proofs.YticpebpicdboaaaGreatDoor

/- Rows of items that grow: attributes that are literals. -/
namespace Go.Proofs.YticpebpicdboaaaGreatDoor
open Go.ChangeShapes Go.WideShapes Go.ChangeAt Go.RowKit
set_option linter.unusedVariables false

/-- two rows' cells, one behind the other -/
def joinA {α : Type} (n : Nat) (F G : Nat → α) (i : Nat) : α := if i < n then F i else G (i - n)
theorem flatI_join (l l2 : List It) (A A2 : Nat → Option Addr) (N N2 C C2 : Nat → Nat) : flatI (l ++ l2) (joinA l.length A A2) (joinA l.length N N2) (joinA l.length C C2) = flatI l A N C ++ flatI l2 A2 N2 C2 := by
  apply List.ext_getElem?
  intro j
  by_cases h1 : j < l.length * 5
  · have h2 : j / 5 < l.length := by omega
    rw [flatI_get _ _ _ _ _ (by rw [List.length_append]; omega), List.getElem?_append_left (by rw [flatI_length]; exact h1), flatI_get _ _ _ _ _ h1]
    have hl : (l ++ l2).getD (j / 5) dIt = l.getD (j / 5) dIt := by rw [List.getD_eq_getElem?_getD, List.getElem?_append_left h2, ← List.getD_eq_getElem?_getD]
    have g : ∀ {α : Type} (F G : Nat → α), joinA l.length F G (j / 5) = F (j / 5) := fun F G => by unfold joinA; rw [if_pos h2]
    unfold cellI
    rw [hl, g, g, g]
  · by_cases h3 : j < (l.length + l2.length) * 5
    · rw [flatI_get _ _ _ _ _ (by rw [List.length_append]; exact h3), List.getElem?_append_right (by rw [flatI_length]; omega), flatI_length, flatI_get _ _ _ _ _ (by omega)]
      have e5 : (j - l.length * 5) / 5 = j / 5 - l.length := by omega
      have e6 : (j - l.length * 5) % 5 = j % 5 := by omega
      have hl : (l ++ l2).getD (j / 5) dIt = l2.getD (j / 5 - l.length) dIt := by rw [List.getD_eq_getElem?_getD, List.getElem?_append_right (by omega), ← List.getD_eq_getElem?_getD]
      have g : ∀ {α : Type} (F G : Nat → α), joinA l.length F G (j / 5) = G (j / 5 - l.length) := fun F G => by unfold joinA; rw [if_neg (by omega)]
      unfold cellI
      rw [hl, g, g, g, e5, e6]
    · rw [List.getElem?_eq_none (by rw [flatI_length, List.length_append]; omega), List.getElem?_eq_none (by rw [List.length_append, flatI_length, flatI_length]; omega)]
/-- behind an append of a row of items of one's own -/
theorem GrowIts.join {w w0 w1 : World} {B : Nat} {v v' : Value} {n k : Nat} {l l2 : List It} {A A2 : Nat → Option Addr} {N C N2 C2 : Nat → Nat}
    (h : GrowIts w B v n l A N C) (hw : Below w.heap.size w w0) (hk : l2.length = k) (hA : ∀ i, i < k → OwnAts w0 w.heap.size w0.heap.size (A2 i) (N2 i) (C2 i) (l2.getD i dIt).attrs ∧ (A2 i = none → C2 i = 0))
    (hE : ∀ i j, i < k → j < k → i ≠ j → ∀ x y, A2 i = some x → A2 j = some y → N2 i ≠ 0 → N2 j ≠ 0 → x.block ≠ y.block) (hB : B ≤ w.heap.size)
    (hr : w1.ownsRow B 77 5 v' (n + k) (flatI l A N C ++ flatI l2 A2 N2 C2)) (hg : w0.grownBy w1 v.ownBlock) (hv : v'.ownBlock = v.ownBlock ∨ ∃ g, v'.ownBlock = some g ∧ w0.heap.size ≤ g) :
    GrowIts w1 B v' (n + k) (l ++ l2) (joinA l.length A A2) (joinA l.length N N2) (joinA l.length C C2) := by
  have hon := Only.grown hg
  have hs0 := hw.size
  have hs1 := hg.size
  have hvlt : ∀ g, v.ownBlock = some g → g < w.heap.size := fun g hgb => (h.row.lt g hgb).2
  have hold : ∀ i, i < l.length → ∀ z, A i = some z → N i ≠ 0 → B ≤ z.block ∧ z.block < w.heap.size := fun i hi z hz hne => (h.ats i hi).1.in hz hne
  have hnew : ∀ i, i < k → ∀ z, A2 i = some z → N2 i ≠ 0 → w.heap.size ≤ z.block ∧ z.block < w0.heap.size := fun i hi z hz hne => (hA i hi).1.in hz hne
  have j1 : ∀ {α : Type} (F G : Nat → α) (i : Nat), i < l.length → joinA l.length F G i = F i := fun F G i hi => by unfold joinA; rw [if_pos hi]
  have j2 : ∀ {α : Type} (F G : Nat → α) (i : Nat), l.length ≤ i → joinA l.length F G i = G (i - l.length) := fun F G i hi => by unfold joinA; rw [if_neg (by omega)]
  have hlen : ∀ i, i < (l ++ l2).length → i < l.length ∨ (l.length ≤ i ∧ i - l.length < k) := fun i hi => by
    rw [List.length_append] at hi
    omega
  have hvn : ∀ z : Addr, w.heap.size ≤ z.block → z.block < w0.heap.size → v'.ownBlock ≠ some z.block := fun z h1 h2 hq => by
    rcases hv with hv | ⟨g, hv, hg2⟩
    · rw [hv] at hq
      have := hvlt _ hq
      omega
    · rw [hv] at hq
      simp only [Option.some.injEq] at hq
      omega
  refine ⟨by rw [flatI_join]; exact hr, fun i hi => ?_, fun i hi z hz hne => ?_, fun i j hi hj hij z z' hz hz' hn hn' => ?_⟩
  · rcases hlen i hi with h1 | ⟨h1, h2⟩
    · rw [j1 _ _ _ h1, j1 _ _ _ h1, j1 _ _ _ h1]
      have hl : (l ++ l2).getD i dIt = l.getD i dIt := by rw [List.getD_eq_getElem?_getD, List.getElem?_append_left h1, ← List.getD_eq_getElem?_getD]
      rw [hl]
      have h0 := (h.ats i h1).1.only (Only.below (P := fun _ => False) hw) fun _ _ _ h => h
      have h3 := h0.only hon fun z hz hne hq => h.apart i h1 z hz hne hq.symm
      exact ⟨⟨h3.ats, h3.own.imp id fun ⟨b, g1, g2, g3, g4⟩ => ⟨b, g1, g2, by omega, g4⟩⟩, (h.ats i h1).2⟩
    · rw [j2 _ _ _ h1, j2 _ _ _ h1, j2 _ _ _ h1]
      have hl : (l ++ l2).getD i dIt = l2.getD (i - l.length) dIt := by rw [List.getD_eq_getElem?_getD, List.getElem?_append_right h1, ← List.getD_eq_getElem?_getD]
      rw [hl]
      have h3 := (hA _ h2).1.only hon fun z hz hne hq => by
        have g1 := (hnew _ h2 z hz hne).1
        have g2 := hvlt z.block hq.symm
        omega
      exact ⟨⟨h3.ats, h3.own.imp id fun ⟨b, g1, g2, g3, g4⟩ => ⟨b, g1, by omega, by omega, g4⟩⟩, (hA _ h2).2⟩
  · rcases hlen i hi with h1 | ⟨h1, h2⟩
    · rw [j1 _ _ _ h1] at hz hne
      have g1 := hold i h1 z hz hne
      rcases hv with hv | ⟨g, hv, hg2⟩
      · rw [hv]
        exact h.apart i h1 z hz hne
      · rw [hv]
        intro hq
        simp only [Option.some.injEq] at hq
        omega
    · rw [j2 _ _ _ h1] at hz hne
      have g1 := hnew _ h2 z hz hne
      exact hvn z g1.1 g1.2
  · rcases hlen i hi with h1 | ⟨h1, h2⟩
    · rw [j1 _ _ _ h1] at hz hn
      have g1 := hold i h1 z hz hn
      rcases hlen j hj with h3 | ⟨h3, h4⟩
      · rw [j1 _ _ _ h3] at hz' hn'
        exact h.each i j h1 h3 hij z z' hz hz' hn hn'
      · rw [j2 _ _ _ h3] at hz' hn'
        have g2 := hnew _ h4 z' hz' hn'
        omega
    · rw [j2 _ _ _ h1] at hz hn
      have g1 := hnew _ h2 z hz hn
      rcases hlen j hj with h3 | ⟨h3, h4⟩
      · rw [j1 _ _ _ h3] at hz' hn'
        have g2 := hold j h3 z' hz' hn'
        omega
      · rw [j2 _ _ _ h3] at hz' hn'
        exact hE _ _ h2 h4 (by omega) z z' hz hz' hn hn'
/-- a row of one item -/
theorem grow_root2 {w : World} {B n c : Nat} {a : Option Addr} (x : It) (hB : B ≤ w.heap.size) (h : OwnAts w B w.heap.size a n c x.attrs) (hnil : a = none → c = 0) :
    GrowIts (w.alloc (.cells #[.int .i64 x.depth, .string x.text, .string x.space, .string x.name, .slice a n c] 77)) B (.slice (some ⟨w.heap.size, 0, none⟩) 1 1) 1 [x] (fun _ => a) (fun _ => n) (fun _ => c) := by
  have hl := World.ownsRow_lit (base := B) (e := 77) (size := 5) w #[.int .i64 x.depth, .string x.text, .string x.space, .string x.name, .slice a n c] 1 hB (by decide) (by simp)
  have hown := h.only (Only.below (P := fun _ => False) (below1 w (.cells #[.int .i64 x.depth, .string x.text, .string x.space, .string x.name, .slice a n c] 77))) fun _ _ _ h => h
  have ef : flatI [x] (fun _ => a) (fun _ => n) (fun _ => c) = (#[.int .i64 x.depth, .string x.text, .string x.space, .string x.name, .slice a n c] : Array Value).toList := by
    show List.map (cellI [x] (fun _ => a) (fun _ => n) (fun _ => c)) (List.range 5) = _
    rw [show List.range 5 = [0, 1, 2, 3, 4] from by decide]
    simp [cellI]
  refine ⟨by rw [ef]; exact hl, fun i hi => ?_, fun i hi y hy hne => ?_, fun i j hi hj hij => ?_⟩
  · have h0 : i = 0 := by simpa using hi
    subst h0
    exact ⟨⟨hown.ats, hown.own.imp id fun ⟨b, h1, h2, h3, h4⟩ => ⟨b, h1, h2, by simp; omega, h4⟩⟩, hnil⟩
  · have g1 := hown.in hy hne
    simp only [Value.ownBlock]
    intro e
    simp only [Option.some.injEq] at e
    omega
  · simp at hi hj
    omega

/-- a row of one attribute, laid by a literal -/
theorem lit_ats1 (w : World) (B : Nat) (hB : B ≤ w.heap.size) (nm v : ByteArray) (h1 : nm.size ≤ 9223372036854775807) (h2 : v.size ≤ 9223372036854775807) :
    OwnAts (w.alloc (.cells #[.string nm, .string v] 75)) B (w.alloc (.cells #[.string nm, .string v] 75)).heap.size (some ⟨w.heap.size, 0, none⟩) 1 1 [⟨nm, v⟩] := by
  have hl := World.ownsRow_lit (base := B) (e := 75) (size := 2) w #[.string nm, .string v] 1 hB (by decide) (by simp)
  have ef : flatA [⟨nm, v⟩] = (#[.string nm, .string v] : Array Value).toList := by
    show List.map _ (List.range 2) = _
    rw [show List.range 2 = [0, 1] from by decide]
    simp
  rw [← ef] at hl
  refine ownAts_of hl (by decide) fun i => ?_
  match i with
  | 0 => exact ⟨h1, h2⟩
  | i + 1 => exact ⟨by show (0 : Nat) ≤ _; omega, by show (0 : Nat) ≤ _; omega⟩
theorem OwnAts.later {w w' : World} {lo hi hi' : Nat} {a : Option Addr} {n c : Nat} {l : List At} (h : OwnAts w lo hi a n c l) (hb : Below w.heap.size w w') (hh : hi ≤ hi') : OwnAts w' lo hi' a n c l := by
  have h1 := h.only (Only.below (P := fun _ => False) hb) fun _ _ _ h => h
  exact ⟨h1.ats, h1.own.imp id fun ⟨b, g1, g2, g3, g4⟩ => ⟨b, g1, g2, by omega, g4⟩⟩
def one2 {α : Type} (a z : α) (i : Nat) : α := if i = 0 then a else z
theorem flatI_two (x y : It) (a : Option Addr) (m c : Nat) : flatI [x, y] (one2 a none) (one2 m 0) (one2 c 0) = [.int .i64 x.depth, .string x.text, .string x.space, .string x.name, .slice a m c, .int .i64 y.depth, .string y.text, .string y.space, .string y.name, .slice none 0 0] := by
  show List.map (cellI [x, y] _ _ _) (List.range 10) = _
  rw [show List.range 10 = [0, 1, 2, 3, 4, 5, 6, 7, 8, 9] from by decide]
  simp [cellI, one2]
/-- behind an append of two items, of which the first one has attributes -/
theorem GrowIts.two1 {w w0 w1 : World} {B : Nat} {v v' : Value} {n : Nat} {l : List It} {A : Nat → Option Addr} {N C : Nat → Nat} {x y : It} {a : Option Addr} {m c : Nat}
    (h : GrowIts w B v n l A N C) (hw : Below w.heap.size w w0) (ha : OwnAts w0 w.heap.size w0.heap.size a m c x.attrs) (hnil : a = none → c = 0) (hy : y.attrs = []) (hB : B ≤ w.heap.size)
    (hr : w1.ownsRow B 77 5 v' (n + 2) (flatI l A N C ++ [.int .i64 x.depth, .string x.text, .string x.space, .string x.name, .slice a m c, .int .i64 y.depth, .string y.text, .string y.space, .string y.name, .slice none 0 0])) (hg : w0.grownBy w1 v.ownBlock)
    (hv : v'.ownBlock = v.ownBlock ∨ ∃ g, v'.ownBlock = some g ∧ w0.heap.size ≤ g) :
    ∃ (A' : Nat → Option Addr) (N' C' : Nat → Nat), GrowIts w1 B v' (n + 2) (l ++ [x, y]) A' N' C' := by
  refine ⟨_, _, _, h.join (l2 := [x, y]) (A2 := one2 a none) (N2 := one2 m 0) (C2 := one2 c 0) hw rfl (fun i hi => ?_) (fun i j hi hj hij p q hp hq hn hn' => ?_) hB (by rw [flatI_two]; exact hr) hg hv⟩
  · match i, hi with
    | 0, _ => exact ⟨ha, hnil⟩
    | 1, _ =>
      show OwnAts w0 w.heap.size w0.heap.size none 0 0 y.attrs ∧ _
      rw [hy]
      exact ⟨bareAts _ _ _, fun _ => rfl⟩
  · match i, j, hi, hj with
    | 0, 0, _, _ => exact absurd rfl hij
    | 0, 1, _, _ => cases hq
    | 1, _, _, _ => cases hp
end Go.Proofs.YticpebpicdboaaaGreatDoor

/- The model's l8Share. -/
namespace Go.Proofs.YticpebpicdboaaaGreatDoor
open Go.ChangeShapes Go.WideShapes Go.ChangeAt Go.RowKit
set_option linter.unusedVariables false

set_option maxRecDepth 100000 in
set_option maxHeartbeats 1600000 in
theorem l8Share_any (n : Nat) (hn : n ≤ 1000) (w : World) : Calls Tryz.prog 178 #[.int .i64 n] w (TextB (shareT n) w) := by
  have K1 := Lib.hid (l1Digits_any (n / 1000) (by omega))
  have K2 := Lib.hid (l1Digits_any (1000 + n % 1000) (by omega))
  have s1 := digT_size19 (n := n / 1000) (by omega)
  have s2 := digT_size19 (n := 1000 + n % 1000) (by omega)
  have s3 := digT_pos (1000 + n % 1000)
  have e1 : ((n / 1000 : Nat) : Int) = (n : Int) / 1000 := by omega
  have e2 : ((1000 + n % 1000 : Nat) : Int) = 1000 + (n : Int) % 1000 := by omega
  rw [e1] at K1
  rw [e2] at K2
  unfold shareT
  unfold TextB at *
  generalize digT (n / 1000) = t1 at *
  generalize digT (1000 + n % 1000) = t2 at *
  have s4 : (behindT t2).size ≤ 18 := by unfold behindT; rw [ByteArray.size_extract]; omega
  have e3 : t2.extract 1 t2.size = behindT t2 := rfl
  have HE := Lib.hid e3
  generalize behindT t2 = t3 at *
  have k1 : IntKind.i64.wrap ((n : Int) / 1000) = (n : Int) / 1000 := IntWalk.i64_in _ (by omega)
  have k2 : (n : Int).tmod 1000 = (n : Int) % 1000 := Int.tmod_eq_emod_of_nonneg (by omega)
  have k3 : IntKind.i64.wrap (1000 + (n : Int) % 1000) = 1000 + (n : Int) % 1000 := IntWalk.i64_in _ (by omega)
  have k5 : (1 : Int) ≤ (t2.size : Int) := by omega
  have k6 : ((t2.size : Int)).toNat = t2.size := by omega
  clear e1 e2
  go_enter Tryz.func178, Tryz.ntmps178
  go_wp2_with fail
  refine (K1.out _).mono ?_
  rintro e w1 ⟨rfl, hb1⟩
  go_wp2_with fail
  refine (K2.out _).mono ?_
  rintro e w2 ⟨rfl, hb2⟩
  go_wp2
  go_ret
  exact ⟨rfl, below_then hb1 hb2⟩
end Go.Proofs.YticpebpicdboaaaGreatDoor
