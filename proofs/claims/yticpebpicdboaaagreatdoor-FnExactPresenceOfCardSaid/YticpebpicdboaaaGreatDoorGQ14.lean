/- The contract of strings.Builder's copyCheck at this dump. -/
import Derived.Test.YticpebpicdboaaaGreatDoorGQ1
import Derived.Shelf.Strings.BuilderRune
import Derived.Test.YticpebpicdboaaaGreatDoorGQ7
import Derived.Test.YticpebpicdboaaaGreatDoorGQ13
import Derived.Test.YticpebpicdboaaaGreatDoorGQ12
import Derived.Test.YticpebpicdboaaaGreatDoorGQ4
import Derived.Test.YticpebpicdboaaaGreatDoorGQ6
namespace Go.Proofs.YticpebpicdboaaaGreatDoor
open Go.ChangeShapes Go.WideShapes Go.ChangeAt Go.RowKit Go.Shelf
set_option linter.unusedVariables false

theorem sizeBuilder : (Tryz.prog.info? 198).map (·.size) = some 2 := by kernel_rfl
theorem liesBuilder : liesAt Tryz.prog Tryz.prog.depth 198 (2 / Tryz.prog.cellsOf 198) 0 198 1 = true := by kernel_rfl
theorem neBuilder : (198 : Nat) ≠ 5 := by decide
abbrev IsB (w : World) (B b : Nat) (bs : List Value) : Prop := Lib.IsBuilderF 198 5 B b bs w
abbrev AtB (w : World) (B b : Nat) (bs : List Value) : Prop := Lib.BuilderAtF 198 5 B b (.pointer (some ⟨b, 0, none⟩)) bs w
abbrev KeptB (b : Nat) (w w' : World) : Prop := Lib.OthersKept 5 (some b) w w'

set_option maxRecDepth 100000 in
theorem copyCheck_used (b : Nat) (w : World) (h0 : w.cell? ⟨b, 0, none⟩ = some (.pointer (some ⟨b, 0, none⟩))) :
    Calls Tryz.prog 249 #[.pointer (some ⟨b, 0, none⟩)] w fun e w' => e = .returned (.tuple #[]) ∧ w' = w := by
  obtain ⟨j, hj, _⟩ := Option.map_eq_some_iff.1 sizeBuilder
  have hn := Lib.run_neq_ptr_same (P := Tryz.prog) w ⟨b, 0, none⟩ Tryz.underlying196 hj
  go_enter Tryz.func249, Tryz.ntmps249
  go_wp2
  go_end0
  exact ⟨rfl, rfl⟩

set_option maxRecDepth 100000 in
theorem copyCheck_fresh (b : Nat) (w : World) (h0 : w.cell? ⟨b, 0, none⟩ = some (.pointer none)) (hsh : w.shape? b = some (198, 2)) (hfz : w.frozen? ⟨b, 0, none⟩ = false) :
    Calls Tryz.prog 249 #[.pointer (some ⟨b, 0, none⟩)] w fun e w' => e = .returned (.tuple #[]) ∧ w' = w.setCell ⟨b, 0, none⟩ (.pointer (some ⟨b, 0, none⟩)) := by
  obtain ⟨j, hj, hjs⟩ := Option.map_eq_some_iff.1 sizeBuilder
  have h1 := Lib.run_to_unsafe (P := Tryz.prog) w ⟨b, 0, none⟩ Tryz.underlying196 Tryz.underlying297 hj (by rw [hjs]; decide) hsh (Nat.zero_lt_succ 1)
  have h2 := @run_callFunc_extern Tryz.prog 289 _ Extern.AbiNoEscape.same Tryz.func289 (by kernel_rfl) (by kernel_rfl) (by kernel_rfl) (by kernel_rfl)
  have h3 := Lib.run_noEscape (P := Tryz.prog) (w := w)
  have h4 := Lib.run_from_unsafe (P := Tryz.prog) w ⟨b, 0, none⟩ Tryz.underlying297 Tryz.underlying196 hj hsh liesBuilder
  go_enter Tryz.func249, Tryz.ntmps249
  go_wp2
  go_end0
  exact ⟨rfl, rfl⟩

theorem copyCheck_any (B b : Nat) (bs : List Value) (w : World) (h : IsB w B b bs) :
    Calls Tryz.prog 249 #[.pointer (some ⟨b, 0, none⟩)] w fun e w' => e = .returned (.tuple #[]) ∧ AtB w' B b bs ∧ Below B w w' ∧ KeptB b w w' := by
  rcases h with h | h
  · refine (copyCheck_fresh b w h.cell0 h.shape h.frozen0).mono ?_
    rintro e w' ⟨rfl, rfl⟩
    exact ⟨rfl, h.used _, (Below.refl B w).setCell (p := ⟨b, 0, none⟩) h.1 _, (Lib.OthersKept.refl _ _ w).setCell ⟨b, 0, none⟩ rfl _⟩
  · refine (copyCheck_used b w h.cell0).mono ?_
    rintro e w' ⟨rfl, rfl⟩
    exact ⟨rfl, h, Below.refl B _, Lib.OthersKept.refl _ _ _⟩

end Go.Proofs.YticpebpicdboaaaGreatDoor

/- The contract of strings.Builder's WriteString at this dump. -/
namespace Go.Proofs.YticpebpicdboaaaGreatDoor
open Go.ChangeShapes Go.WideShapes Go.ChangeAt Go.RowKit Go.Shelf
set_option linter.unusedVariables false

theorem byteInfoB : (Tryz.prog.info? 5).map (fun i => (i.zero, i.size, i.bytes)) = some (some (.int .u8 0), 1, 1) := by kernel_rfl
/-- behind a string written: the builder has its bytes behind its own -/
def WroteS (w : World) (B b : Nat) (bs : List Value) (s : ByteArray) (e : Ending) (w' : World) : Prop :=
  e = .returned (.tuple #[.int .i64 s.size, .nilIface]) ∧ AtB w' B b (bs ++ Lib.strCells s) ∧ Below B w w' ∧ KeptB b w w'

set_option maxHeartbeats 1600000 in
set_option maxRecDepth 100000 in
theorem writeString_any (B b : Nat) (bs : List Value) (s : ByteArray) (w : World) (h : IsB w B b bs) (hlen : bs.length ≤ 1000000000) (hs : s.size ≤ 100000000) (hBw : B ≤ w.heap.size) :
    Calls Tryz.prog 187 #[.pointer (some ⟨b, 0, none⟩), .string s] w (WroteS w B b bs s) := by
  obtain ⟨i0, hi, hz0, hz1, hz2⟩ := info_parts byteInfoB
  have HI := Lib.hid h
  clear h
  go_enter Tryz.func187, Tryz.ntmps187
  go_wp2_with fail
  refine (copyCheck_any B b bs _ HI.out).mono ?_
  rintro e w1 ⟨rfl, h1, hb1, hk1⟩
  obtain ⟨hB, v, hbk, hown, hne⟩ := h1
  obtain ⟨ao, cap, rfl⟩ : ∃ ao cap, v = .slice ao bs.length cap := by
    rcases hown.2 with ⟨hv, h0⟩ | ⟨g, cap, cur, fz, hv, _⟩
    · exact ⟨none, 0, by rw [hv, h0]⟩
    · exact ⟨_, _, hv⟩
  have c1 : w1.cell? ⟨b, 1, none⟩ = some (.slice ao bs.length cap) := by rw [Lib.cell_of_heap hbk]; rfl
  have HOWN := Lib.hid hown
  have HNE := Lib.hid hne
  have HBK := Lib.hid hbk
  have HK1 := Lib.hid hk1
  have HB1 := Lib.hid hb1
  clear hown hne hbk hk1 hb1
  go_wp2_with (at_builtin; refine Lib.wpList_append_own_stringF _ rfl _ _ 22 9 rfl B 5 i0 Tryz.underlying22 Tryz.underlying9 hi hz0 hz1 hz2 _ bs.length bs rfl HOWN.out s rfl (by unfold maxLen; omega) (by omega) (by have := HB1.out.size; omega) ?_)
  intro v' w2 hown' hgrow _
  have hlt : b < w1.heap.size := by
    rcases Nat.lt_or_ge b w1.heap.size with h' | h'
    · exact h'
    · have := HBK.out
      simp [Array.getElem?_eq_none h'] at this
  have hb2 : w2.heap[b]? = some (.cells #[.pointer (some ⟨b, 0, none⟩), .slice ao bs.length cap] 198 (0, 0)) := by
    rw [hgrow.block b hlt (fun e => HNE.out e.symm)]
    exact HBK.out
  have d1 : w2.cell? ⟨b, 1, none⟩ = some (.slice ao bs.length cap) := by rw [Lib.cell_of_heap hb2]; rfl
  have f1 : w2.frozen? ⟨b, 1, none⟩ = false := Lib.frozen_of_heap hb2 1
  obtain ⟨a', cap', rfl⟩ : ∃ a' cap', v' = .slice a' (bs.length + s.size) cap' := by
    rcases hown'.2 with ⟨hv, h0⟩ | ⟨g, cap', cur, fz, hv, _⟩
    · exact ⟨none, 0, by rw [hv, h0]⟩
    · exact ⟨_, _, hv⟩
  have HO2 := Lib.hid hown'
  have HG := Lib.hid hgrow
  have HB2 := Lib.hid hb2
  clear hown' hgrow hb2 c1
  go_wp2
  go_ret2
  refine ⟨rfl, ?_, ?_, (HK1.out.grown HG.out (Lib.ownsRowF_kind HOWN.out)).setCell ⟨b, 1, none⟩ rfl _⟩
  · have := HO2.out
    exact Lib.BuilderAtF.put hB HB2.out (bs' := bs ++ Lib.strCells s) (by rw [List.length_append, Lib.strCells_length]; exact this) neBuilder
  · exact (HB1.out.grown HG.out (by have := HB1.out.size; omega) (fun k hk => (HOWN.out.lt k hk).1)).setCell (p := ⟨b, 1, none⟩) hB _
end Go.Proofs.YticpebpicdboaaaGreatDoor

/- impl.TextIn at a tree without fault. -/
namespace Go.Proofs.YticpebpicdboaaaGreatDoor
open Go.ChangeShapes Go.WideShapes Go.ChangeAt Go.RowKit Go.Shelf
set_option linter.unusedVariables false

/-- the texts of the first kids, one behind the other -/
def joinT (l : List It) (ks : List Nat) : Nat → ByteArray
  | 0 => ByteArray.empty
  | j + 1 => joinT l ks j ++ (l.getD (ks.getD j 0) dIt).text
def isTx (l : List It) (ks : List Nat) (j : Nat) : Bool := (l.getD (ks.getD j 0) dIt).name.toList.isEmpty
/-- the code and the text of what is in a node -/
def inC (l : List It) (ks : List Nat) : Int := if (List.range ks.length).all (isTx l ks) then (if 60 < (joinT l ks ks.length).size then 2 else 0) else 1
def inT (l : List It) (ks : List Nat) : ByteArray := if (List.range ks.length).all (isTx l ks) then (if 60 < (joinT l ks ks.length).size then ⟨#[]⟩ else joinT l ks ks.length) else ⟨#[]⟩
theorem in_no {l : List It} {ks : List Nat} {j : Nat} (hj : j < ks.length) (h : isTx l ks j = false) : inC l ks = 1 ∧ inT l ks = ⟨#[]⟩ := by
  have e : (List.range ks.length).all (isTx l ks) = false := by
    rw [List.all_eq_false]
    exact ⟨j, List.mem_range.2 hj, by rw [h]; simp⟩
  unfold inC inT
  rw [e]
  exact ⟨rfl, rfl⟩
theorem in_yes {l : List It} {ks : List Nat} (h : ∀ j, j < ks.length → isTx l ks j = true) : inC l ks = (if 60 < (joinT l ks ks.length).size then 2 else 0) ∧ inT l ks = (if 60 < (joinT l ks ks.length).size then ⟨#[]⟩ else joinT l ks ks.length) := by
  have e : (List.range ks.length).all (isTx l ks) = true := by
    rw [List.all_eq_true]
    exact fun j hj => h j (List.mem_range.1 hj)
  unfold inC inT
  rw [e]
  exact ⟨rfl, rfl⟩
theorem joinT_size {l : List It} {ks : List Nat} (hs : ∀ i, (l.getD i dIt).text.size ≤ 1000) : ∀ j, (joinT l ks j).size ≤ j * 1000
  | 0 => by simp [joinT]
  | j + 1 => by
    have h1 := joinT_size (ks := ks) hs j
    have h2 := hs (ks.getD j 0)
    unfold joinT
    rw [ByteArray.size_append]
    omega
theorem strCells_app (a b : ByteArray) : Lib.strCells (a ++ b) = Lib.strCells a ++ Lib.strCells b := by
  unfold Lib.strCells
  rw [ByteArray.data_append, Array.toList_append, List.map_append]

set_option maxRecDepth 100000 in
set_option maxHeartbeats 3200000 in
theorem implTextIn_any (bi oi n c k : Nat) (l : List It) (w : World) (hT : Tabs w) (h : ItsAt w (some ⟨bi, oi, none⟩) n c l) (hc : treeCode l = 0) (hk : k < n) (hs : ∀ i, (l.getD i dIt).text.size ≤ 1000) :
    Calls Tryz.prog 152 #[.slice (some ⟨bi, oi, none⟩) n c, .int .i64 (k : Int)] w (TxtRes w (inC l (kidsUp l l.length k)) (inT l (kidsUp l l.length k))) := by
  have hl := h.len
  have hn40 := (rises_of hc).few
  have KN := Lib.hid (fun W (hW : Below w.heap.size w W) => nodeAt_any bi oi n c k l W (tabs_kept hT hW) (h.below hW) hc hk)
  have hkl : k < l.length := by omega
  have hks : (kidsUp l l.length k).length ≤ 40 := by have := kidsUp_len l l.length k; omega
  obtain ⟨b0, o0, e0, hI⟩ := h.row.resolve_left (by omega)
  cases e0
  have HI : Hid (∀ i, i < l.length → ItAt w bi (oi + i * 5) (l.getD i dIt)) := Lib.hid fun i hi => hI i (by omega)
  have hbi : bi < w.heap.size := (hI k hk).lt
  have HS := Lib.hid hs
  unfold NodeAtRes at KN
  unfold TxtRes
  obtain ⟨ks, hks0⟩ : ∃ ks, kidsUp l l.length k = ks := ⟨_, rfl⟩
  rw [hks0] at hks ⊢
  have HNOT : Hid (∀ j, j < ks.length → isTx l ks j = false → inC l ks = 1 ∧ inT l ks = ⟨#[]⟩) := Lib.hid fun j h1 h2 => in_no h1 h2
  have HYES : Hid ((∀ j, j < ks.length → isTx l ks j = true) → inC l ks = (if 60 < (joinT l ks ks.length).size then 2 else 0) ∧ inT l ks = (if 60 < (joinT l ks ks.length).size then ⟨#[]⟩ else joinT l ks ks.length)) := Lib.hid in_yes
  generalize inC l ks = cd at HNOT HYES ⊢
  generalize inT l ks = tx at HNOT HYES ⊢
  have HKS := Lib.hid hks0
  clear h hT hl hc hks0 hs hI
  have hty := isText_yes
  have htn := isText_no
  have hey := isElem_yes
  go_enter Tryz.func152, Tryz.ntmps152
  go_wp2_with fail
  refine (KN.out _ (below1 _ _)).mono ?_
  rintro e w1 ⟨B, nb, KA, KNN, KC, rfl, hB, hN, hb1⟩
  have p2 := hN.c2 k hkl
  obtain ⟨hkn, hrow⟩ := hN.kidAt hkl
  rw [HKS.out] at hkn hrow
  have hz := hb1.size
  simp at hz
  replace hz : w.heap.size < w1.heap.size := by omega
  obtain ⟨hcc, hff⟩ := bcell hb1
  have HB1 := Lib.hid (below_then (below1 _ _) hb1)
  have hRC : ∀ W, Below w1.heap.size w1 W → (W.cell? ⟨w.heap.size, 0, none⟩ = some (.int .i64 0) ∧ W.cell? ⟨w.heap.size, 1, none⟩ = some (.string ByteArray.empty) ∧ W.frozen? ⟨w.heap.size, 0, none⟩ = false ∧ W.frozen? ⟨w.heap.size, 1, none⟩ = false) := fun W hb => by
    refine ⟨?_, ?_, ?_, ?_⟩
    · exact (hb.cell (p := ⟨w.heap.size, 0, none⟩) hz).trans ((hcc _ _ (by simp)).trans (by go_simp; try rfl))
    · exact (hb.cell (p := ⟨w.heap.size, 1, none⟩) hz).trans ((hcc _ _ (by simp)).trans (by go_simp; try rfl))
    · exact (hb.frozen (p := ⟨w.heap.size, 0, none⟩) hz).trans ((hff _ _ (by simp)).trans (by go_simp; try rfl))
    · exact (hb.frozen (p := ⟨w.heap.size, 1, none⟩) hz).trans ((hff _ _ (by simp)).trans (by go_simp; try rfl))
  have HRC := Lib.hid hRC
  have HN0 : Hid (∀ j, j < l.length → nb j < w1.heap.size ∧ w1.cell? ⟨nb j, 0, none⟩ = some (partV bi oi (l.getD j dIt) j)) := Lib.hid fun j hj => ⟨(hN.lt j hj).2, hN.c0 j hj⟩
  have HROW := Lib.hid hrow
  have HKN := Lib.hid hkn
  clear hRC hcc hff hb1 hN KN hrow
  have hk40 : KNN k ≤ 40 := by omega
  clear hkn
  generalize KNN k = m at p2 HKN HROW hk40
  generalize KA k = ka at p2 HROW
  generalize KC k = kc at p2
  unfold ptrN
  unfold ptrN at HROW
  have p2 := ((below1 w1 (.cells #[.pointer none, .slice none 0 0] 198)).cell (World.block_lt_of_cell? _ _ p2)).trans p2
  go_wp2
  go_loopw [27] (fun i wr => ∃ j : Nat, j ≤ m ∧ i = .int .i64 (j : Int) ∧ (∀ i, i < j → isTx l ks i = true) ∧ IsB wr w1.heap.size w1.heap.size (Lib.strCells (joinT l ks j)) ∧ Below w1.heap.size w1 wr ∧ w1.heap.size < wr.heap.size) (fun i _ => m - (intOf i).toNat)
  case atStart => exact ⟨0, Nat.zero_le _, rfl, fun i hi => by omega, Lib.IsBuilderF.of (Lib.fresh_isBuilder _ _ w1), below1 _ _, by simp⟩
  case round =>
    obtain ⟨j, hj, rfl, hall, hib, hb, hsz⟩ := hrel
    have HA := Lib.hid hall
    have HIB := Lib.hid hib
    have HB := Lib.hid hb
    clear hall hib hb p2
    obtain ⟨r0, r1, f0, f1⟩ := HRC.out wr HB.out
    have hjs := joinT_size (ks := ks) HS.out j
    by_cases hlt : j < m
    · obtain ⟨g, rfl, hg, hat⟩ := HROW.out.resolve_left (by omega)
      obtain ⟨c0, hkid⟩ := hat j hlt
      have d0 := (HB.out.cell (p := ⟨g, j, none⟩) hg).trans c0
      obtain ⟨hnl, c1⟩ := HN0.out _ hkid
      have d1 := (HB.out.cell (p := ⟨nb (ks.getD j 0), 0, none⟩) hnl).trans c1
      have q0 : (j : Int) < (m : Int) := by omega
      have hit := (HI.out _ hkid).below (HB1.out.trans (HB.out.mono HB1.out.size))
      have d2 := hit.c1
      have hst := HS.out (ks.getD j 0)
      have HNO2 := Lib.hid (HNOT.out j (by have := HKN.out; omega))
      have HYE2 : Hid (isTx l ks j = true → ∀ i, i < j + 1 → isTx l ks i = true) := Lib.hid fun e i hi => by
        rcases Nat.lt_or_ge i j with h | h
        · exact HA.out i h
        · obtain rfl : i = j := by omega
          exact e
      have HJN : Hid (joinT l ks (j + 1) = joinT l ks j ++ (l.getD (ks.getD j 0) dIt).text) := Lib.hid rfl
      unfold isTx at HNO2
      have HIX : Hid (isTx l ks j = (l.getD (ks.getD j 0) dIt).name.toList.isEmpty) := Lib.hid rfl
      unfold partV at d1
      clear hat c0 c1 hit
      generalize ks.getD j 0 = x at d0 d1 d2 hnl hkid hst HNO2 HJN HIX
      generalize l.getD x dIt = y at d1 d2 hst HNO2 HJN HIX
      cases hye : y.name.toList.isEmpty
      · obtain ⟨rfl, rfl⟩ := HNO2.out hye
        rw [hye, if_neg (by simp)] at d1
        clear HNO2 HYE2 HJN HIX
        have hzr : w.heap.size < wr.heap.size := by omega
        have b0 : (wr.alloc (.cells #[.pointer (some ⟨bi, oi + x * 5, none⟩)] 152)).cell? ⟨w.heap.size, 0, none⟩ = some (.int .i64 0) := ((below1 wr _).cell hzr).trans r0
        have b1 : (wr.alloc (.cells #[.pointer (some ⟨bi, oi + x * 5, none⟩)] 152)).cell? ⟨w.heap.size, 1, none⟩ = some (.string ByteArray.empty) := ((below1 wr _).cell hzr).trans r1
        have k0 : (wr.alloc (.cells #[.pointer (some ⟨bi, oi + x * 5, none⟩)] 152)).frozen? ⟨w.heap.size, 0, none⟩ = false := ((below1 wr _).frozen hzr).trans f0
        have k1 : (wr.alloc (.cells #[.pointer (some ⟨bi, oi + x * 5, none⟩)] 152)).frozen? ⟨w.heap.size, 1, none⟩ = false := ((below1 wr _).frozen hzr).trans f1
        have HB3 := Lib.hid (HB1.out.trans ((HB.out.trans ((below1 wr (.cells #[.pointer (some ⟨bi, oi + x * 5, none⟩)] 152)).mono HB.out.size)).mono HB1.out.size))
        go_upto_region 14 with fail
        clear r0 r1 f0 f1 d0 d1 d2
        generalize wr.alloc (.cells #[.pointer (some ⟨bi, oi + x * 5, none⟩)] 152) = W3 at b0 b1 k0 k1 HB3 ⊢
        go_wp2
        exact bodyPost_ret (v := .agg #[.int .i64 1, .string ⟨#[]⟩]) (by simp [results, Tryz.results152, go_sem, (two_set (.int .i64 1) (.string ⟨#[]⟩) b0 b1).1, (two_set (.int .i64 1) (.string ⟨#[]⟩) b0 b1).2]) rfl ⟨rfl, (HB3.out.setCell (Nat.le_refl _) _).setCell (Nat.le_refl _) _⟩
      · rw [hye, if_pos rfl] at d1
        have HX := Lib.hid (HYE2.out (HIX.out.trans hye))
        clear HNO2 HYE2 HIX
        have hw3 : w1.heap.size ≤ (wr.alloc (.cells #[.pointer (some ⟨bi, oi + x * 5, none⟩)] 151)).heap.size := by simp; omega
        have hlen : (Lib.strCells (joinT l ks j)).length ≤ 1000000 := by rw [Lib.strCells_length]; omega
        have d2 := ((below1 wr (.cells #[.pointer (some ⟨bi, oi + x * 5, none⟩)] 151)).cell (p := ⟨bi, oi + x * 5 + 1, none⟩) (World.block_lt_of_cell? _ _ d2)).trans d2
        go_wp2_with fail
        refine (writeString_any w1.heap.size w1.heap.size _ y.text _ (HIB.out.alloc _) (Nat.le_trans hlen (by decide)) (by omega) hw3).mono ?_
        rintro e w2 ⟨rfl, hat2, hb2, _⟩
        have hs2 := hb2.size
        have HB2 := Lib.hid ((HB.out.trans ((below1 wr (.cells #[.pointer (some ⟨bi, oi + x * 5, none⟩)] 151)).mono HB.out.size)).trans hb2)
        have HAT2 := Lib.hid hat2
        simp at hs2
        clear hat2 hb2 d0 d1 d2
        go_wp2
        go_roundw
        case rel => exact ⟨j + 1, by omega, by go_num, HX.out, .inr (by rw [HJN.out, strCells_app]; exact HAT2.out), HB2.out, by omega⟩
        case measure => simp [intOf]; omega
    · obtain rfl : j = m := by omega
      have hw3 : w1.heap.size ≤ wr.heap.size := by omega
      have hy := HYES.out fun i hi => HA.out i (by have := HKN.out; omega)
      rw [← HKN.out] at hy
      have HY := Lib.hid hy
      have KL := Lib.hid (Tryz.Builder_Len_f w1.heap.size w1.heap.size _ wr HIB.out)
      have KS := Lib.hid (Tryz.Builder_String_any_f w1.heap.size w1.heap.size (joinT l ks j).data.toList wr HIB.out hw3)
      have hb9 : (⟨(joinT l ks j).data.toList.toArray⟩ : ByteArray) = joinT l ks j := by cases joinT l ks j; simp
      rw [hb9] at KS
      rw [Lib.strCells_length] at KL
      clear hy HYES HNOT hb9 HIB
      generalize joinT l ks j = t at hjs HY KL KS
      go_wp2_with fail
      refine KL.out.mono ?_
      rintro e w2 ⟨rfl, rfl⟩
      by_cases h60 : 60 < t.size
      · have hy := HY.out
        rw [if_pos h60, if_pos h60] at hy
        obtain ⟨rfl, rfl⟩ := hy
        have q6 : (60 : Int) < (t.size : Int) := by omega
        clear HY KS KL
        go_wp2
        exact bodyPost_ret (v := .agg #[.int .i64 2, .string ⟨#[]⟩]) (by simp [results, Tryz.results152, go_sem, (two_set (.int .i64 2) (.string ⟨#[]⟩) r0 r1).1, (two_set (.int .i64 2) (.string ⟨#[]⟩) r0 r1).2]) rfl ⟨rfl, ((HB1.out.trans (HB.out.mono HB1.out.size)).setCell (Nat.le_refl _) _).setCell (Nat.le_refl _) _⟩
      · have hy := HY.out
        rw [if_neg h60, if_neg h60] at hy
        have q6 : ¬ (60 : Int) < (t.size : Int) := by omega
        obtain ⟨rfl, rfl⟩ := hy
        clear HY KL
        go_wp2_with fail
        refine KS.out.mono ?_
        rintro e w3 ⟨rfl, _, hb3⟩
        have HB4 := Lib.hid (HB.out.trans hb3)
        obtain ⟨b0, b1, k0, k1⟩ := HRC.out w3 HB4.out
        clear hb3 r0 r1 f0 f1
        go_wp2
        exact bodyPost_ret (v := .agg #[.int .i64 0, .string tx]) (by simp [results, Tryz.results152, go_sem, (two_set (.int .i64 0) (.string tx) b0 b1).1, (two_set (.int .i64 0) (.string tx) b0 b1).2]) rfl ⟨rfl, ((HB1.out.trans (HB4.out.mono HB1.out.size)).setCell (Nat.le_refl _) _).setCell (Nat.le_refl _) _⟩
end Go.Proofs.YticpebpicdboaaaGreatDoor

/- The text of a node's kids is the model's text of an item. -/
namespace Go.Proofs.YticpebpicdboaaaGreatDoor
open Go.ChangeShapes Go.WideShapes Go.ChangeAt Go.RowKit
set_option linter.unusedVariables false

theorem two_texts {l : List It} (h : treeCode l = 0) {i : Nat} (h1 : 1 ≤ i) (hi : i < l.length) (ha : (l.getD (i - 1) dIt).name.toList.isEmpty = true) (hb : (l.getD i dIt).name.toList.isEmpty = true) : dp l i ≠ dp l (i - 1) := by
  have hg := fun j (hj : j < l.length) => good_item h hj
  unfold treeCode at h
  split at h
  · omega
  · rw [find_no l dIt _ fun j hj => by simp only [hg j hj]; decide] at h
    have hs : stands l = true := by
      cases e : stands l
      · rw [e] at h; simp at h
      · rfl
    unfold stands at hs
    simp only [Bool.and_eq_true, List.all_eq_true, decide_eq_true_eq] at hs
    obtain ⟨_, hall⟩ := hs
    have := hall i (List.mem_range.2 hi)
    rw [Bool.or_eq_true, beq_iff_eq] at this
    rcases this with g | g
    · omega
    · unfold mayStand standB at g
      rw [Bool.not_eq_true', Bool.or_eq_false_iff, Bool.or_eq_false_iff, Bool.or_eq_false_iff] at g
      obtain ⟨_, g4⟩ := g
      rw [ha, hb] at g4
      simp at g4
      exact g4
theorem text_size {x : It} (h : itemCode x = 0) (he : x.name.toList.isEmpty = true) : x.text.size ≤ 60 := by
  unfold itemCode at h
  split at h
  · omega
  · try rw [if_pos he] at h
    unfold textCode at h
    split at h
    · omega
    · unfold textFault at h
      split at h
      · omega
      · rename_i h2
        simp at h2
        exact h2
theorem in_elem {l : List It} {ks : List Nat} {b : Nat} (hb : b ∈ ks) (he : (l.getD b dIt).name.toList.isEmpty = false) : inC l ks = 1 ∧ inT l ks = ⟨#[]⟩ := by
  obtain ⟨j, hj, e⟩ := List.mem_iff_getElem.1 hb
  refine in_no hj ?_
  have e2 : ks.getD j 0 = b := by rw [List.getD_eq_getElem?_getD, List.getElem?_eq_getElem hj, Option.getD_some, e]
  unfold isTx
  rw [e2]
  exact he
theorem in_text {l : List It} (h : treeCode l = 0) {a : Nat} (ha : a < l.length) :
    inC l (kidsUp l l.length a) = (if (textL l a).isSome then 0 else 1) ∧ inT l (kidsUp l l.length a) = txtT (textL l a) := by
  have R := rises_of h
  have hbd := endL_bounds ha
  have hks := kids_same R ha
  have hmem : ∀ b, b < l.length → a < b → b < endL l a → dp l b = dp l a + 1 → b ∈ kidsUp l l.length a := fun b hb h1 h2 h3 => by
    unfold kidsUp
    rw [List.mem_filter, List.mem_range]
    exact ⟨hb, (kid_iff R ha hb).2 ⟨h1, h2, h3⟩⟩
  unfold kidsL kidsTo at hks
  unfold textL
  rcases Nat.lt_or_ge (a + 1) (endL l a) with g | g
  · have hb : a + 1 < l.length := by omega
    have d1 := endL_in (l := l) (a := a) (i := a + 1) (by omega) g
    have d2 := (R.step (a + 1) (by omega) hb).2
    rw [Nat.add_sub_cancel] at d2
    have d3 : dp l (a + 1) = dp l a + 1 := by omega
    obtain ⟨f, hf⟩ : ∃ f, endL l a - (a + 1) = f + 1 := ⟨endL l a - (a + 1) - 1, by omega⟩
    cases hn : (l.getD (a + 1) dIt).name.toList.isEmpty
    · obtain ⟨e1, e2⟩ := in_elem (hmem (a + 1) hb (by omega) g d3) hn
      rw [hf, e1, e2, textF, hn]
      exact ⟨rfl, rfl⟩
    · rcases Nat.lt_or_ge (a + 2) (endL l a) with g2 | g2
      · have hb2 : a + 2 < l.length := by omega
        have c1 := endL_in (l := l) (a := a) (i := a + 2) (by omega) g2
        have c2 := R.text (a + 2) (by omega) hb2 (by rw [show a + 2 - 1 = a + 1 from by omega]; exact hn)
        rw [show a + 2 - 1 = a + 1 from by omega] at c2
        have hn2 : (l.getD (a + 2) dIt).name.toList.isEmpty = false := by
          cases e : (l.getD (a + 2) dIt).name.toList.isEmpty
          · rfl
          · have := two_texts h (i := a + 2) (by omega) hb2 (by rw [show a + 2 - 1 = a + 1 from by omega]; exact hn) e
            rw [show a + 2 - 1 = a + 1 from by omega] at this
            omega
        obtain ⟨e1, e2⟩ := in_elem (hmem (a + 2) hb2 (by omega) g2 (by omega)) hn2
        obtain ⟨f2, rfl⟩ : ∃ f2, f = f2 + 1 := ⟨f - 1, by omega⟩
        rw [hf, e1, e2, textF, hn, if_pos rfl, textF, show a + 1 + 1 = a + 2 from rfl, hn2]
        exact ⟨rfl, rfl⟩
      · obtain rfl : f = 0 := by omega
        rw [hf] at hks ⊢
        have hq : ((l.getD (a + 1) dIt).depth == (l.getD a dIt).depth + 1) = true := by
          rw [beq_iff_eq]
          exact d3
        rw [List.range'_succ, List.range'_zero, List.filter_cons, if_pos hq, List.filter_nil, List.map_cons, List.map_nil, List.map_eq_singleton_iff] at hks
        obtain ⟨b, hb1, hb2⟩ := hks
        obtain rfl : b = a + 1 := by omega
        have hsz := text_size (good_item h hb) hn
        rw [hb1]
        obtain ⟨e1, e2⟩ := in_yes (l := l) (ks := [a + 1]) (fun j hj => by
          have : j = 0 := by simpa using hj
          subst this
          exact hn)
        have hj : joinT l [a + 1] [a + 1].length = ByteArray.empty ++ (l.getD (a + 1) dIt).text := rfl
        have hj2 : ¬ 60 < (joinT l [a + 1] [a + 1].length).size := by
          rw [hj, ByteArray.size_append]
          simp
          exact hsz
        rw [if_neg hj2] at e1 e2
        rw [e1, e2, textF, hn, if_pos rfl, textF]
        exact ⟨rfl, rfl⟩
  · have hf : endL l a - (a + 1) = 0 := by omega
    rw [hf] at hks ⊢
    rw [List.range'_zero, List.filter_nil, List.map_nil, List.map_eq_nil_iff] at hks
    rw [hks]
    exact ⟨rfl, rfl⟩
end Go.Proofs.YticpebpicdboaaaGreatDoor

/- spec.l7Attr, spec.l7Leaf: rows of attributes and of items that grow. -/
namespace Go.Proofs.YticpebpicdboaaaGreatDoor
open Go.ChangeShapes Go.WideShapes Go.ChangeAt Go.RowKit
set_option linter.unusedVariables false

/-- an attribute more, if it says anything -/
def addAt (es : List At) (nm s : ByteArray) : List At := if s.toList.isEmpty then es else es ++ [⟨nm, s⟩]
theorem flatA_more (es : List At) (nm s : ByteArray) : flatA (es ++ [⟨nm, s⟩]) = flatA es ++ [.string nm, .string s] := by
  apply List.ext_getElem?
  intro j
  by_cases h1 : j < es.length * 2
  · rw [flatA_get _ _ (by simp; omega), List.getElem?_append_left (by rw [flatA_length]; exact h1), flatA_get _ _ h1]
    have e : (es ++ [(⟨nm, s⟩ : At)]).getD (j / 2) dAt = es.getD (j / 2) dAt := by rw [List.getD_eq_getElem?_getD, List.getElem?_append_left (by omega), ← List.getD_eq_getElem?_getD]
    rw [e]
  · by_cases h2 : j < (es.length + 1) * 2
    · rw [flatA_get _ _ (by simp; omega), List.getElem?_append_right (by rw [flatA_length]; omega), flatA_length]
      have e : (es ++ [(⟨nm, s⟩ : At)]).getD (j / 2) dAt = ⟨nm, s⟩ := by
        rw [List.getD_eq_getElem?_getD, List.getElem?_append_right (by omega), show j / 2 - es.length = 0 by omega]; rfl
      rw [e]
      rcases Nat.lt_or_ge j (es.length * 2 + 1) with h3 | h3
      · rw [show j - es.length * 2 = 0 by omega, if_pos (by omega)]; rfl
      · rw [show j - es.length * 2 = 1 by omega, if_neg (by omega)]; rfl
    · rw [List.getElem?_eq_none (by rw [flatA_length]; simp; omega), List.getElem?_eq_none (by rw [List.length_append, flatA_length]; simp; omega)]
theorem atCells (W : World) (x y : ByteArray) (j : Nat) (u : Value) (hj : [Value.string x, Value.string y][j]? = some u) : ((W.alloc (.cells #[.string x, .string y] 75))).cell? (Addr.add ⟨W.heap.size, 0, none⟩ j) = some u := by
  match j, hj with
  | 0, hj => simp at hj; subst hj; simp [Addr.add]
  | 1, hj => simp at hj; subst hj; simp [Addr.add]
theorem itemCells (W : World) (v0 v1 v2 v3 v4 : Value) (j : Nat) (u : Value) (hj : [v0, v1, v2, v3, v4][j]? = some u) : ((W.alloc (.cells #[v0, v1, v2, v3, v4] 77))).cell? (Addr.add ⟨W.heap.size, 0, none⟩ j) = some u := by
  match j, hj with
  | 0, hj => simp at hj; subst hj; simp [Addr.add]
  | 1, hj => simp at hj; subst hj; simp [Addr.add]
  | 2, hj => simp at hj; subst hj; simp [Addr.add]
  | 3, hj => simp at hj; subst hj; simp [Addr.add]
  | 4, hj => simp at hj; subst hj; simp [Addr.add]
/-- a row of attributes with one more, if it says anything -/
def AttrRes (w : World) (B : Nat) (v : Value) (es : List At) (en : Ending) (w' : World) : Prop :=
  ∃ (a : Option Addr) (n c : Nat), en = .returned (.slice a n c) ∧ w'.ownsRow B 75 2 (.slice a n c) n (flatA es) ∧ w.grownBy w' v.ownBlock ∧ ((Value.slice a n c).ownBlock = v.ownBlock ∨ ∃ g, (Value.slice a n c).ownBlock = some g ∧ w.heap.size ≤ g)
set_option maxHeartbeats 1600000 in
theorem l7Attr_any (B : Nat) (a : Option Addr) (n c : Nat) (es : List At) (nm s : ByteArray) (w : World) (hB : B ≤ w.heap.size) (hn : n ≤ 1000) (h : w.ownsRow B 75 2 (.slice a n c) n (flatA es)) :
    Calls Tryz.prog 140 #[.slice a n c, .string nm, .string s] w (AttrRes w B (.slice a n c) (addAt es nm s)) := by
  obtain ⟨i0, hi, hz0, hi1, hz2⟩ := info_parts attrInfo
  have H := Lib.hid h
  unfold AttrRes addAt
  clear h
  cases he : s.toList.isEmpty
  · rw [if_neg (by simp)]
    go_enter Tryz.func140, Tryz.ntmps140
    go_wp2_with (at_builtin; refine wpList_append_own_at _ rfl _ _ 72 rfl B 75 i0 (.agg #[.string ByteArray.empty, .string ByteArray.empty]) 2 32 Tryz.underlying72 hi hz0 hi1 hz2 rfl (by decide) _ n _ rfl (owns_below H.out (below1 _ _)) ⟨w.heap.size, 0, none⟩ 1 1 [.string nm, .string s] rfl rfl ?c1 ?c2 ?c3 ?c4 ?c5 ?_)
    case c1 => exact atCells w nm s
    case c2 => intro v hv; simp at hv; rcases hv with rfl | rfl <;> rfl
    case c3 => unfold maxLen; omega
    case c4 => omega
    case c5 => simp; omega
    intro v' w1 hown hgr _ hat
    obtain ⟨a8, c8, rfl⟩ := owns_slice hown
    have R : Hid (w1.ownsRow B 75 2 (.slice a8 (n + 1) c8) (n + 1) (flatA (es ++ [⟨nm, s⟩]))) := Lib.hid (by rw [flatA_more]; exact hown)
    have G := Lib.hid (show w.grownBy w1 (Value.slice a n c).ownBlock from grown_trans_row ((fun h => (⟨h.os, h.tape, h.output, h.size, fun i hi _ => h.block i hi⟩ : w.grownBy _ (Value.slice a n c).ownBlock)) (below1 w (.cells #[.string nm, .string s] 75))) hgr)
    have AT := Lib.hid (hat.imp id fun e => (⟨w.heap.size + 1, by simpa using e, by omega⟩ : ∃ g, (Value.slice a8 (n + 1) c8).ownBlock = some g ∧ w.heap.size ≤ g))
    clear hown hgr hat
    go_wp2
    go_ret
    exact ⟨_, _, _, rfl, R.out, G.out, AT.out⟩
  · rw [if_pos rfl]
    go_enter Tryz.func140, Tryz.ntmps140
    go_wp2
    go_ret
    exact ⟨a, n, c, rfl, H.out, World.grownBy.refl _ _, .inl rfl⟩

/-- an element with a text in it -/
def leafL (d : Int) (sp nm t : ByteArray) : List It := ⟨d, ByteArray.empty, sp, nm, []⟩ :: (if t.toList.isEmpty then [] else [⟨d + 1, t, ByteArray.empty, ByteArray.empty, []⟩])
/-- a row of items that has grown -/
def GrownRes (w : World) (B : Nat) (v : Value) (l : List It) (en : Ending) (w' : World) : Prop :=
  ∃ (a : Option Addr) (n c : Nat) (A : Nat → Option Addr) (N C : Nat → Nat), en = .returned (.slice a n c) ∧ GrowIts w' B (.slice a n c) n l A N C ∧ w.grownBy w' v.ownBlock ∧ ((Value.slice a n c).ownBlock = v.ownBlock ∨ ∃ g, (Value.slice a n c).ownBlock = some g ∧ w.heap.size ≤ g)
theorem bareAts (w : World) (lo hi : Nat) : OwnAts w lo hi none 0 0 [] := ⟨⟨rfl, by omega, fun i => by simp [dAt], .inl rfl⟩, .inl rfl⟩
end Go.Proofs.YticpebpicdboaaaGreatDoor
