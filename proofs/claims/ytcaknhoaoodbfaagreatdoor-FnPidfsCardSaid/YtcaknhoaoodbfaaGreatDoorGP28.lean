/- impl.ValueOf at a tree without fault. -/
import Derived.Test.YtcaknhoaoodbfaaGreatDoorGP27
import Derived.Test.YtcaknhoaoodbfaaGreatDoorGP23
import Derived.Test.YtcaknhoaoodbfaaGreatDoorGP20
import Derived.Test.YtcaknhoaoodbfaaGreatDoorGP0
import Derived.Shelf.Strings.BuilderRune
import Derived.Test.YtcaknhoaoodbfaaGreatDoorGP2
import Derived.Test.YtcaknhoaoodbfaaGreatDoorGP7
namespace Go.Proofs.YtcaknhoaoodbfaaGreatDoor
open Go.ChangeShapes Go.WideShapes Go.ChangeAt Go.RowKit
set_option linter.unusedVariables false
theorem isElem_yes (a : Addr) (w : World) : (Instr.typeAssert (.iface 129 (.agg #[.pointer (some a)])) 72 129 true).run Tryz.prog w = .ok (.tuple #[.agg #[.pointer (some a)], .bool true]) w := by kernel_rfl
theorem isElem_no (a : Addr) (w : World) : (Instr.typeAssert (.iface 128 (.agg #[.pointer (some a)])) 72 129 true).run Tryz.prog w = .ok (.tuple #[.agg #[.pointer none], .bool false]) w := by kernel_rfl
theorem good_item {l : List It} (h : treeCode l = 0) {i : Nat} (hi : i < l.length) : itemCode (l.getD i dIt) = 0 := by
  unfold treeCode at h
  split at h
  · omega
  · cases hf : l.find? (fun x => itemCode x != 0) with
    | some y =>
      rw [hf] at h
      have := List.find?_some hf
      rw [bne_iff_ne] at this
      exact absurd h this
    | none =>
      rw [List.find?_eq_none] at hf
      have hm := hf (l.getD i dIt) (by rw [List.getD_eq_getElem?_getD, List.getElem?_eq_getElem hi]; exact List.getElem_mem hi)
      simpa using hm
theorem text_attrs {x : It} (h : itemCode x = 0) (he : x.name.toList.isEmpty = true) : x.attrs = [] := by
  unfold itemCode at h
  split at h
  · omega
  · try rw [if_pos he] at h
    unfold textCode at h
    split at h
    · omega
    · rename_i h1
      rw [← List.length_eq_zero_iff]
      omega
theorem two_set {w1 : World} {b : Nat} {u0 u1 : Value} (v0 v1 : Value) (r0 : w1.cell? ⟨b, 0, none⟩ = some u0) (r1 : w1.cell? ⟨b, 1, none⟩ = some u1) :
    (w1.setCell ⟨b, 0, none⟩ v0).cell? ⟨b, 0, none⟩ = some v0 ∧ ((w1.setCell ⟨b, 0, none⟩ v0).setCell ⟨b, 1, none⟩ v1).cell? ⟨b, 1, none⟩ = some v1 :=
  ⟨World.cell?_setCell_same _ _ _ r0, World.cell?_setCell_same _ _ _ ((World.cell?_setCell_other _ _ _ _ (fun q => by have := congrArg Addr.off q; simp at this)).trans r1)⟩
def valC (v : Option ByteArray) : Int := if v.isSome then 0 else 4
set_option maxRecDepth 100000 in
set_option maxHeartbeats 3200000 in
theorem implValueOf_any (bi oi n c k : Nat) (l : List It) (name : ByteArray) (w : World) (hT : Tabs w) (h : ItsAt w (some ⟨bi, oi, none⟩) n c l) (hc : treeCode l = 0) (hk : k < n) :
    Calls Tryz.prog 148 #[.slice (some ⟨bi, oi, none⟩) n c, .int .i64 (k : Int), .string name] w (TxtRes w (valC (valueL (l.getD k dIt).attrs name)) (valT (valueL (l.getD k dIt).attrs name))) := by
  have hl := h.len
  have KN := Lib.hid (fun W (hW : Below w.heap.size w W) => nodeAt_any bi oi n c k l W (tabs_kept hT hW) (h.below hW) hc hk)
  have hgi := good_item hc (i := k) (by omega)
  obtain ⟨b0, o0, e0, hI⟩ := h.row.resolve_left (by omega)
  cases e0
  have hx := hI k hk
  obtain ⟨a4, n4, c4, d4, hat⟩ := hx.c4
  have hbw : bi < w.heap.size := hx.lt
  have D4 : Hid (∀ W, Below w.heap.size w W → W.cell? ⟨bi, oi + k * 5 + 4, none⟩ = some (.slice a4 n4 c4)) := Lib.hid fun W hW => (hW.cell (p := ⟨bi, oi + k * 5 + 4, none⟩) hbw).trans d4
  have HAT := Lib.hid hat
  have hkl : k < l.length := by omega
  have HP : Hid (∀ (B : Nat) (nb : Nat → Nat) (KA : Nat → Option Addr) (KN KC : Nat → Nat) (W : World), Nodes W B bi oi l l.length nb KA KN KC (kidsUp l l.length) → W.cell? ⟨nb k, 0, none⟩ = some (partV bi oi (l.getD k dIt) k)) := Lib.hid fun B nb KA KN KC W hN => hN.c0 k hkl
  have htx : (l.getD k dIt).name.toList.isEmpty = true → (l.getD k dIt).attrs = [] := text_attrs hgi
  unfold NodeAtRes at KN
  clear h hT hI hx d4 hat hl hgi
  generalize l.getD k dIt = x at HP htx HAT ⊢
  obtain ⟨v, hv⟩ : ∃ v, valueL x.attrs name = v := ⟨_, rfl⟩
  rw [hv]
  unfold TxtRes
  have HV := Lib.hid hv
  have HTX := Lib.hid htx
  clear hv htx
  go_enter Tryz.func148, Tryz.ntmps148
  go_wp2_with fail
  refine (KN.out _ (below1 _ _)).mono ?_
  rintro e w1 ⟨B, nb, KA, KNN, KC, rfl, hB, hN, hb1⟩
  have p0 := HP.out _ _ _ _ _ _ hN
  have hz := hb1.size
  simp at hz
  replace hz : w.heap.size < w1.heap.size := by omega
  obtain ⟨hcc, hff⟩ := bcell hb1
  have HB1 := Lib.hid (below_then (below1 _ _) hb1)
  have hRC : ∀ W, Below w1.heap.size w1 W → (W.cell? ⟨w.heap.size, 0, none⟩ = some (.int .i64 0) ∧ W.cell? ⟨w.heap.size, 1, none⟩ = some (.string ByteArray.empty) ∧ W.frozen? ⟨w.heap.size, 0, none⟩ = false ∧ W.frozen? ⟨w.heap.size, 1, none⟩ = false) := fun W hb => by
    refine ⟨?_, ?_, ?_, ?_⟩
    · exact (hb.cell (p := ⟨w.heap.size, 0, none⟩) hz).trans ((hcc _ _ (by simp)).trans (by go_simp; try rfl))
    · exact (hb.cell (p := ⟨w.heap.size, 1, none⟩) hz).trans ((hcc _ _ (by simp)).trans (by go_simp; try rfl))
    · exact (hb.frozen (p := ⟨w.heap.size, 0, none⟩) hz).trans ((hff _ _ (by simp)).trans (by go_simp; try rfl))
    · exact (hb.frozen (p := ⟨w.heap.size, 1, none⟩) hz).trans ((hff _ _ (by simp)).trans (by go_simp; try rfl))
  have HRC := Lib.hid hRC
  clear hRC hcc hff hb1 hN KN HP
  have hyes := isElem_yes
  have hno := isElem_no
  unfold ptrN
  unfold partV at p0
  cases hxe : x.name.toList.isEmpty
  case true =>
    rw [hxe, if_pos rfl] at p0
    have hat0 := HTX.out hxe
    have hv0 : v = none := by rw [← HV.out, hat0]; rfl
    subst hv0
    obtain ⟨r0, r1, f0, f1⟩ := HRC.out w1 (Below.refl _ _)
    go_wp2
    exact bodyPost_ret (v := .agg #[.int .i64 4, .string ⟨#[]⟩]) (by simp [results, Tryz.results148, go_sem, (two_set (.int .i64 4) (.string ⟨#[]⟩) r0 r1).1, (two_set (.int .i64 4) (.string ⟨#[]⟩) r0 r1).2]) rfl ⟨rfl, (HB1.out.setCell (Nat.le_refl _) _).setCell (Nat.le_refl _) _⟩
  case false =>
    rw [hxe, if_neg (by simp)] at p0
    have HV1 : Hid (∀ j, j < n4 → (∀ m, m < j → ((x.attrs.getD m dAt).name.toList == name.toList) = false) → ((x.attrs.getD j dAt).name.toList == name.toList) = true → v = some (x.attrs.getD j dAt).value) := Lib.hid fun j hj h0 h1 => by
      rw [← HV.out]
      exact valueL_at (by have := HAT.out.len; omega) h0 h1
    have HV2 : Hid ((∀ m, m < n4 → ((x.attrs.getD m dAt).name.toList == name.toList) = false) → v = none) := Lib.hid fun h0 => by
      rw [← HV.out]
      exact valueL_no fun m hm => h0 m (by have := HAT.out.len; omega)
    have d4 := D4.out _ HB1.out
    have hm4 := HAT.out.max
    have HROW := Lib.hid HAT.out.row
    clear HAT HV HTX
    generalize x.attrs = la at HV1 HV2 HROW
    have e4 : (w1.alloc (.cells #[.pointer (some ⟨bi, oi + k * 5, none⟩)] 129)).cell? ⟨bi, oi + k * 5 + 4, none⟩ = some (.slice a4 n4 c4) := ((below1 w1 _).cell (World.block_lt_of_cell? _ _ d4)).trans d4
    go_wp2
    go_loopw [35] (fun i wr => ∃ j : Nat, j ≤ n4 ∧ i = .int .i64 (j : Int) ∧ (∀ m, m < j → ((la.getD m dAt).name.toList == name.toList) = false) ∧ Below w1.heap.size w1 wr) (fun i _ => n4 - (intOf i).toNat)
    case atStart => exact ⟨0, Nat.zero_le _, rfl, fun m hm => by omega, below1 _ _⟩
    case round =>
      obtain ⟨j, hj, rfl, hz0, hbr⟩ := hrel
      have HZ := Lib.hid hz0
      have HBR := Lib.hid hbr
      clear hz0 hbr p0 d4 e4
      obtain ⟨r0, r1, f0, f1⟩ := HRC.out wr HBR.out
      have hzr : w.heap.size < wr.heap.size := by have := HBR.out.size; omega
      by_cases hlt : j < n4
      · obtain ⟨ab, ao, rfl, hab, hcs⟩ := HROW.out.resolve_left (by omega)
        have q0 : (j : Int) < (n4 : Int) := by omega
        have g0 := ((HB1.out.trans (HBR.out.mono HB1.out.size)).cell (p := ⟨ab, ao + j * 2, none⟩) hab).trans (hcs j hlt).1
        have g1 := ((HB1.out.trans (HBR.out.mono HB1.out.size)).cell (p := ⟨ab, ao + j * 2 + 1, none⟩) hab).trans (hcs j hlt).2
        have HV3 := Lib.hid (HV1.out j hlt HZ.out)
        have HZ2 : Hid (((la.getD j dAt).name.toList == name.toList) = false → ∀ m, m < j + 1 → ((la.getD m dAt).name.toList == name.toList) = false) := Lib.hid fun e m hm => by
          rcases Nat.lt_or_ge m j with h | h
          · exact HZ.out m h
          · obtain rfl : m = j := by omega
            exact e
        clear hcs
        generalize la.getD j dAt = y at g0 g1 HV3 HZ2
        obtain ⟨s, t⟩ := y
        dsimp only at g0 g1 HV3 HZ2
        cases hq : s.toList == name.toList
        · have HZ3 := Lib.hid (HZ2.out hq)
          clear HZ2 HV3
          go_wp2
          go_roundw
          case rel => exact ⟨j + 1, by omega, by go_num, HZ3.out, below_then HBR.out (below1 _ _)⟩
          case measure => simp [intOf]; omega
        · have HV4 := HV3.out hq
          subst HV4
          clear HZ2 HV3
          have b0 : (wr.alloc (.cells #[.string s, .string t] 65)).cell? ⟨w.heap.size, 0, none⟩ = some (.int .i64 0) := ((below1 wr _).cell hzr).trans r0
          have b1 : (wr.alloc (.cells #[.string s, .string t] 65)).cell? ⟨w.heap.size, 1, none⟩ = some (.string ByteArray.empty) := ((below1 wr _).cell hzr).trans r1
          have k0 : (wr.alloc (.cells #[.string s, .string t] 65)).frozen? ⟨w.heap.size, 0, none⟩ = false := ((below1 wr _).frozen hzr).trans f0
          have k1 : (wr.alloc (.cells #[.string s, .string t] 65)).frozen? ⟨w.heap.size, 1, none⟩ = false := ((below1 wr _).frozen hzr).trans f1
          have y1 : (wr.alloc (.cells #[.string s, .string t] 65)).cell? ⟨wr.heap.size, 1, none⟩ = some (.string t) := by simp
          have HB3 := Lib.hid (HB1.out.trans ((below_then HBR.out (below1 wr (.cells #[.string s, .string t] 65))).mono HB1.out.size))
          go_upto_region 11 with fail
          clear r0 r1 f0 f1 g0 g1
          generalize wr.alloc (.cells #[.string s, .string t] 65) = W3 at b0 b1 k0 k1 y1 HB3 ⊢
          go_wp2
          exact bodyPost_ret (v := .agg #[.int .i64 0, .string t]) (by simp [results, Tryz.results148, go_sem, (two_set (.int .i64 0) (.string t) b0 b1).1, (two_set (.int .i64 0) (.string t) b0 b1).2]) rfl ⟨rfl, (HB3.out.setCell (Nat.le_refl _) _).setCell (Nat.le_refl _) _⟩
      · obtain rfl : j = n4 := by omega
        have hv0 : v = none := HV2.out HZ.out
        subst hv0
        go_wp2
        exact bodyPost_ret (v := .agg #[.int .i64 4, .string ⟨#[]⟩]) (by simp [results, Tryz.results148, go_sem, (two_set (.int .i64 4) (.string ⟨#[]⟩) r0 r1).1, (two_set (.int .i64 4) (.string ⟨#[]⟩) r0 r1).2]) rfl ⟨rfl, ((HB1.out.trans (HBR.out.mono HB1.out.size)).setCell (Nat.le_refl _) _).setCell (Nat.le_refl _) _⟩
theorem Nodes.kidAt {w : World} {B bi oi : Nat} {l : List It} {m : Nat} {nb : Nat → Nat} {KA : Nat → Option Addr} {KN KC : Nat → Nat} {K : Nat → List Nat} (h : Nodes w B bi oi l m nb KA KN KC K) {k : Nat} (hk : k < m) :
    KN k = (K k).length ∧ (KN k = 0 ∨ ∃ g, KA k = some ⟨g, 0, none⟩ ∧ g < w.heap.size ∧ ∀ j, j < KN k → w.cell? ⟨g, j, none⟩ = some (ptrN (nb ((K k).getD j 0))) ∧ (K k).getD j 0 < m) := by
  have hr := h.row k hk
  have hl : KN k = (K k).length := by have := hr.1; rw [rowN_len] at this; omega
  refine ⟨hl, ?_⟩
  rcases hr.2 with ⟨hv, hn⟩ | ⟨g, cap, cur, hv, hg, hh, hnc, hm, hs, ht⟩
  · exact .inl hn
  · have hlt := (hr.lt g (by rw [hv]; rfl)).2
    injection hv with h1 h2 h3
    refine .inr ⟨g, h1, hlt, fun j hj => ?_⟩
    have hj2 : j < (K k).length := by omega
    have hat : (K k).getD j 0 ∈ K k := by rw [List.getD_eq_getElem?_getD, List.getElem?_eq_getElem hj2]; exact List.getElem_mem hj2
    refine ⟨?_, h.kid k hk _ hat⟩
    rw [h1, h2, h3] at hr
    have hc := hr.cellAt j (by omega)
    rw [hc]
    unfold rowN
    rw [List.getElem?_map, List.getElem?_eq_getElem hj2, List.getD_eq_getElem?_getD, List.getElem?_eq_getElem hj2]
    rfl
def IntsRes (w : World) (L : List Int) (e : Ending) (w' : World) : Prop :=
  ∃ a n c, e = .returned (.agg #[.int .i64 0, .slice a n c]) ∧ w'.ownsRow w.heap.size 2 1 (.slice a n c) n (L.map (Value.int .i64)) ∧ Below w.heap.size w w'
def kidV (ks : List Nat) (j : Nat) : List Value := (ks.take j).map fun k => Value.int .i64 ((k : Nat) : Int)
theorem kidV_snoc {ks : List Nat} {j : Nat} (h : j < ks.length) : kidV ks (j + 1) = kidV ks j ++ [Value.int .i64 ((ks.getD j 0 : Nat) : Int)] := by
  unfold kidV
  rw [List.take_succ_eq_append_getElem h, List.map_append, List.getD_eq_getElem?_getD, List.getElem?_eq_getElem h]
  rfl
theorem kidV_len (ks : List Nat) (j : Nat) : (kidV ks j).length ≤ ks.length := by unfold kidV; rw [List.length_map, List.length_take]; omega
theorem kidV_all (ks : List Nat) : kidV ks ks.length = (ks.map fun k => ((k : Nat) : Int)).map (Value.int .i64) := by
  unfold kidV
  rw [List.take_length, List.map_map]
  rfl
theorem i64Cells (W : World) (x : Int) (j : Nat) (u : Value) (hj : [Value.int .i64 x][j]? = some u) : (W.alloc (.cells #[.int .i64 x] 2)).cell? (Addr.add ⟨W.heap.size, 0, none⟩ j) = some u := by
  match j, hj with
  | 0, hj => simp at hj; subst hj; simp [Addr.add]
set_option maxRecDepth 100000 in
set_option maxHeartbeats 3200000 in
theorem implKidsOf_any (bi oi n c k : Nat) (l : List It) (w : World) (hT : Tabs w) (h : ItsAt w (some ⟨bi, oi, none⟩) n c l) (hc : treeCode l = 0) (hk : k < n) :
    Calls Tryz.prog 205 #[.slice (some ⟨bi, oi, none⟩) n c, .int .i64 (k : Int)] w (IntsRes w ((kidsUp l l.length k).map fun j => ((j : Nat) : Int))) := by
  obtain ⟨i0, hi, hz0, hz1, hz2⟩ := info_parts i64InfoK
  have hl := h.len
  have hn40 := (rises_of hc).few
  have KN := Lib.hid (fun W (hW : Below w.heap.size w W) => nodeAt_any bi oi n c k l W (tabs_kept hT hW) (h.below hW) hc hk)
  have hkl : k < l.length := by omega
  have hks : (kidsUp l l.length k).length ≤ 40 := by have := kidsUp_len l l.length k; omega
  unfold NodeAtRes at KN
  unfold IntsRes
  obtain ⟨ks, hks0⟩ : ∃ ks, kidsUp l l.length k = ks := ⟨_, rfl⟩
  rw [hks0] at hks ⊢
  have HKS := Lib.hid hks0
  clear h hT hl hc hks0
  go_enter Tryz.func205, Tryz.ntmps205
  go_wp2_with fail
  refine (KN.out _ (below1 _ _)).mono ?_
  rintro e w1 ⟨B, nb, KA, KNN, KC, rfl, hB, hN, hb1⟩
  have p2 := hN.c2 k hkl
  obtain ⟨hkn, hrow⟩ := hN.kidAt hkl
  rw [HKS.out] at hkn hrow
  have hz := hb1.size
  simp at hz
  replace hz : w.heap.size < w1.heap.size := by omega
  obtain ⟨hcc, hff⟩ := bcell hb1
  have HB1 := Lib.hid (below_then (below1 _ _) hb1)
  have hRC : ∀ W, Below w1.heap.size w1 W → (W.cell? ⟨w.heap.size, 0, none⟩ = some (.int .i64 0) ∧ W.cell? ⟨w.heap.size, 1, none⟩ = some (.slice none 0 0) ∧ W.frozen? ⟨w.heap.size, 0, none⟩ = false ∧ W.frozen? ⟨w.heap.size, 1, none⟩ = false) := fun W hb => by
    refine ⟨?_, ?_, ?_, ?_⟩
    · exact (hb.cell (p := ⟨w.heap.size, 0, none⟩) hz).trans ((hcc _ _ (by simp)).trans (by go_simp; try rfl))
    · exact (hb.cell (p := ⟨w.heap.size, 1, none⟩) hz).trans ((hcc _ _ (by simp)).trans (by go_simp; try rfl))
    · exact (hb.frozen (p := ⟨w.heap.size, 0, none⟩) hz).trans ((hff _ _ (by simp)).trans (by go_simp; try rfl))
    · exact (hb.frozen (p := ⟨w.heap.size, 1, none⟩) hz).trans ((hff _ _ (by simp)).trans (by go_simp; try rfl))
  have HRC := Lib.hid hRC
  have HN1 : Hid (∀ j, j < l.length → nb j < w1.heap.size ∧ w1.cell? ⟨nb j, 1, none⟩ = some (.int .i64 (j : Int))) := Lib.hid fun j hj => ⟨(hN.lt j hj).2, hN.c1 j hj⟩
  have HROW := Lib.hid hrow
  have HKN := Lib.hid hkn
  clear hRC hcc hff hb1 hN KN hrow
  have hk40 : KNN k ≤ 40 := by omega
  clear hkn
  generalize KNN k = m at p2 HKN HROW hk40
  generalize KA k = ka at p2 HROW
  generalize KC k = kc at p2
  unfold ptrN
  unfold ptrN at HROW
  go_wp2
  go_loopw [7, 25] (fun v i wr => ∃ (j : Nat) (av : Option Addr) (nv cv : Nat), j ≤ m ∧ i = .int .i64 (j : Int) ∧ v = .slice av nv cv ∧ wr.ownsRow w1.heap.size 2 1 (.slice av nv cv) nv (kidV ks j) ∧ Below w1.heap.size w1 wr) (fun _ i _ => m - (intOf i).toNat)
  case atStart =>
    refine ⟨0, none, 0, 0, Nat.zero_le _, rfl, rfl, ?_, Below.refl _ _⟩
    exact World.ownsRow_nil _ _ _ _
  case round =>
    obtain ⟨j, av, nv, cv, hj, rfl, rfl, ho, hb⟩ := hrel
    have HO := Lib.hid ho
    have HB := Lib.hid hb
    have hnv : nv ≤ 40 := by
      have h1 := ho.1
      have h2 := kidV_len ks j
      omega
    have hsz := hb.size
    clear ho hb p2
    by_cases hlt : j < m
    · obtain ⟨g, rfl, hg, hat⟩ := HROW.out.resolve_left (by omega)
      obtain ⟨c0, hkid⟩ := hat j hlt
      have d0 := (HB.out.cell (p := ⟨g, j, none⟩) hg).trans c0
      obtain ⟨hnl, c1⟩ := HN1.out _ hkid
      have d1 := (HB.out.cell (p := ⟨nb (ks.getD j 0), 1, none⟩) hnl).trans c1
      have q0 : (j : Int) < (m : Int) := by omega
      have HST := Lib.hid (kidV_snoc (ks := ks) (j := j) (by have := HKN.out; omega))
      clear hat c0 c1
      generalize ks.getD j 0 = x at d0 d1 HST hnl hkid
      go_wp2_with (at_builtin; refine wpList_append_own _ rfl _ _ 148 rfl w1.heap.size 2 i0 (.int .i64 0) 1 8 Tryz.underlying148 hi hz0 hz1 hz2 rfl (by decide) _ nv _ rfl (HO.out.alloc _) ⟨wr.heap.size, 0, none⟩ 1 1 [.int .i64 (x : Int)] rfl rfl (fun j u hj => i64Cells wr _ j u hj) (by intro v hv; simp at hv; subst hv; rfl) (by unfold maxLen; omega) (by omega) (by simp; omega) ?_)
      intro v' w2 hown' hgrow _
      obtain ⟨a', c', rfl⟩ := owns_slice hown'
      have HB2 := Lib.hid (below_appended HB.out HO.out hgrow)
      have HO2 := Lib.hid hown'
      clear hown' hgrow
      go_wp2
      go_roundw
      case rel => exact ⟨j + 1, a', _, c', by omega, by go_num, rfl, by rw [HST.out]; exact HO2.out, HB2.out⟩
      case measure => simp [intOf]; omega
    · obtain rfl : j = m := by omega
      obtain ⟨r0, r1, f0, f1⟩ := HRC.out wr HB.out
      have hall : kidV ks j = (ks.map fun k => ((k : Nat) : Int)).map (Value.int .i64) := by rw [HKN.out]; exact kidV_all ks
      have hown := HO.out
      rw [hall] at hown
      have HOW := Lib.hid hown
      clear hown hall
      go_wp2
      exact bodyPost_ret (v := .agg #[.int .i64 0, .slice av nv cv]) (by simp [results, Tryz.results205, go_sem, (two_set (.int .i64 0) (.slice av nv cv) r0 r1).1, (two_set (.int .i64 0) (.slice av nv cv) r0 r1).2]) rfl ⟨av, nv, cv, rfl, owns_mono (base' := w.heap.size) (owns_onlyN HOW.out ((Only.set (P := fun i => i = w.heap.size) _ ⟨w.heap.size, 0, none⟩ (.int .i64 0) rfl).trans (Only.set (P := fun i => i = w.heap.size) _ ⟨w.heap.size, 1, none⟩ (.slice av nv cv) rfl)) (fun g hg e => by have := (HOW.out.lt g hg).1; omega)) (Nat.le_of_lt hz), ((HB1.out.trans (HB.out.mono HB1.out.size)).setCell (Nat.le_refl _) _).setCell (Nat.le_refl _) _⟩
end Go.Proofs.YtcaknhoaoodbfaaGreatDoor
namespace Go.Proofs.YtcaknhoaoodbfaaGreatDoor
open Go.ChangeShapes Go.WideShapes Go.ChangeAt Go.RowKit Go.Shelf
set_option linter.unusedVariables false
theorem sizeBuilder : (Tryz.prog.info? 176).map (·.size) = some 2 := by kernel_rfl
theorem liesBuilder : liesAt Tryz.prog Tryz.prog.depth 176 (2 / Tryz.prog.cellsOf 176) 0 176 1 = true := by kernel_rfl
theorem neBuilder : (176 : Nat) ≠ 5 := by decide
abbrev IsB (w : World) (B b : Nat) (bs : List Value) : Prop := Lib.IsBuilderF 176 5 B b bs w
abbrev AtB (w : World) (B b : Nat) (bs : List Value) : Prop := Lib.BuilderAtF 176 5 B b (.pointer (some ⟨b, 0, none⟩)) bs w
abbrev KeptB (b : Nat) (w w' : World) : Prop := Lib.OthersKept 5 (some b) w w'
set_option maxRecDepth 100000 in
theorem copyCheck_used (b : Nat) (w : World) (h0 : w.cell? ⟨b, 0, none⟩ = some (.pointer (some ⟨b, 0, none⟩))) :
    Calls Tryz.prog 208 #[.pointer (some ⟨b, 0, none⟩)] w fun e w' => e = .returned (.tuple #[]) ∧ w' = w := by
  obtain ⟨j, hj, _⟩ := Option.map_eq_some_iff.1 sizeBuilder
  have hn := Lib.run_neq_ptr_same (P := Tryz.prog) w ⟨b, 0, none⟩ Tryz.underlying174 hj
  go_enter Tryz.func208, Tryz.ntmps208
  go_wp2
  go_end0
  exact ⟨rfl, rfl⟩
set_option maxRecDepth 100000 in
theorem copyCheck_fresh (b : Nat) (w : World) (h0 : w.cell? ⟨b, 0, none⟩ = some (.pointer none)) (hsh : w.shape? b = some (176, 2)) (hfz : w.frozen? ⟨b, 0, none⟩ = false) :
    Calls Tryz.prog 208 #[.pointer (some ⟨b, 0, none⟩)] w fun e w' => e = .returned (.tuple #[]) ∧ w' = w.setCell ⟨b, 0, none⟩ (.pointer (some ⟨b, 0, none⟩)) := by
  obtain ⟨j, hj, hjs⟩ := Option.map_eq_some_iff.1 sizeBuilder
  have h1 := Lib.run_to_unsafe (P := Tryz.prog) w ⟨b, 0, none⟩ Tryz.underlying174 Tryz.underlying249 hj (by rw [hjs]; decide) hsh (Nat.zero_lt_succ 1)
  have h2 := @run_callFunc_extern Tryz.prog 229 _ Extern.AbiNoEscape.same Tryz.func229 (by kernel_rfl) (by kernel_rfl) (by kernel_rfl) (by kernel_rfl)
  have h3 := Lib.run_noEscape (P := Tryz.prog) (w := w)
  have h4 := Lib.run_from_unsafe (P := Tryz.prog) w ⟨b, 0, none⟩ Tryz.underlying249 Tryz.underlying174 hj hsh liesBuilder
  go_enter Tryz.func208, Tryz.ntmps208
  go_wp2
  go_end0
  exact ⟨rfl, rfl⟩
theorem copyCheck_any (B b : Nat) (bs : List Value) (w : World) (h : IsB w B b bs) :
    Calls Tryz.prog 208 #[.pointer (some ⟨b, 0, none⟩)] w fun e w' => e = .returned (.tuple #[]) ∧ AtB w' B b bs ∧ Below B w w' ∧ KeptB b w w' := by
  rcases h with h | h
  · refine (copyCheck_fresh b w h.cell0 h.shape h.frozen0).mono ?_
    rintro e w' ⟨rfl, rfl⟩
    exact ⟨rfl, h.used _, (Below.refl B w).setCell (p := ⟨b, 0, none⟩) h.1 _, (Lib.OthersKept.refl _ _ w).setCell ⟨b, 0, none⟩ rfl _⟩
  · refine (copyCheck_used b w h.cell0).mono ?_
    rintro e w' ⟨rfl, rfl⟩
    exact ⟨rfl, h, Below.refl B _, Lib.OthersKept.refl _ _ _⟩
theorem byteInfoB : (Tryz.prog.info? 5).map (fun i => (i.zero, i.size, i.bytes)) = some (some (.int .u8 0), 1, 1) := by kernel_rfl
def WroteS (w : World) (B b : Nat) (bs : List Value) (s : ByteArray) (e : Ending) (w' : World) : Prop :=
  e = .returned (.tuple #[.int .i64 s.size, .nilIface]) ∧ AtB w' B b (bs ++ Lib.strCells s) ∧ Below B w w' ∧ KeptB b w w'
set_option maxHeartbeats 1600000 in
set_option maxRecDepth 100000 in
theorem writeString_any (B b : Nat) (bs : List Value) (s : ByteArray) (w : World) (h : IsB w B b bs) (hlen : bs.length ≤ 1000000000) (hs : s.size ≤ 100000000) (hBw : B ≤ w.heap.size) :
    Calls Tryz.prog 161 #[.pointer (some ⟨b, 0, none⟩), .string s] w (WroteS w B b bs s) := by
  obtain ⟨i0, hi, hz0, hz1, hz2⟩ := info_parts byteInfoB
  have HI := Lib.hid h
  clear h
  go_enter Tryz.func161, Tryz.ntmps161
  go_wp2_with fail
  refine (copyCheck_any B b bs _ HI.out).mono ?_
  rintro e w1 ⟨rfl, h1, hb1, hk1⟩
  obtain ⟨hB, v, hbk, hown, hne⟩ := h1
  obtain ⟨ao, cap, rfl⟩ : ∃ ao cap, v = .slice ao bs.length cap := by
    rcases hown.2 with ⟨hv, h0⟩ | ⟨g, cap, cur, fz, hv, _⟩
    · exact ⟨none, 0, by rw [hv, h0]⟩
    · exact ⟨_, _, hv⟩
  have c1 : w1.cell? ⟨b, 1, none⟩ = some (.slice ao bs.length cap) := by rw [Lib.cell_of_heap hbk]; rfl
  have HOWN := Lib.hid hown
  have HNE := Lib.hid hne
  have HBK := Lib.hid hbk
  have HK1 := Lib.hid hk1
  have HB1 := Lib.hid hb1
  clear hown hne hbk hk1 hb1
  go_wp2_with (at_builtin; refine Lib.wpList_append_own_stringF _ rfl _ _ 22 9 rfl B 5 i0 Tryz.underlying22 Tryz.underlying9 hi hz0 hz1 hz2 _ bs.length bs rfl HOWN.out s rfl (by unfold maxLen; omega) (by omega) (by have := HB1.out.size; omega) ?_)
  intro v' w2 hown' hgrow _
  have hlt : b < w1.heap.size := by
    rcases Nat.lt_or_ge b w1.heap.size with h' | h'
    · exact h'
    · have := HBK.out
      simp [Array.getElem?_eq_none h'] at this
  have hb2 : w2.heap[b]? = some (.cells #[.pointer (some ⟨b, 0, none⟩), .slice ao bs.length cap] 176 (0, 0)) := by
    rw [hgrow.block b hlt (fun e => HNE.out e.symm)]
    exact HBK.out
  have d1 : w2.cell? ⟨b, 1, none⟩ = some (.slice ao bs.length cap) := by rw [Lib.cell_of_heap hb2]; rfl
  have f1 : w2.frozen? ⟨b, 1, none⟩ = false := Lib.frozen_of_heap hb2 1
  obtain ⟨a', cap', rfl⟩ : ∃ a' cap', v' = .slice a' (bs.length + s.size) cap' := by
    rcases hown'.2 with ⟨hv, h0⟩ | ⟨g, cap', cur, fz, hv, _⟩
    · exact ⟨none, 0, by rw [hv, h0]⟩
    · exact ⟨_, _, hv⟩
  have HO2 := Lib.hid hown'
  have HG := Lib.hid hgrow
  have HB2 := Lib.hid hb2
  clear hown' hgrow hb2 c1
  go_wp2
  go_ret2
  refine ⟨rfl, ?_, ?_, (HK1.out.grown HG.out (Lib.ownsRowF_kind HOWN.out)).setCell ⟨b, 1, none⟩ rfl _⟩
  · have := HO2.out
    exact Lib.BuilderAtF.put hB HB2.out (bs' := bs ++ Lib.strCells s) (by rw [List.length_append, Lib.strCells_length]; exact this) neBuilder
  · exact (HB1.out.grown HG.out (by have := HB1.out.size; omega) (fun k hk => (HOWN.out.lt k hk).1)).setCell (p := ⟨b, 1, none⟩) hB _
def joinT (l : List It) (ks : List Nat) : Nat → ByteArray
  | 0 => ByteArray.empty
  | j + 1 => joinT l ks j ++ (l.getD (ks.getD j 0) dIt).text
def isTx (l : List It) (ks : List Nat) (j : Nat) : Bool := (l.getD (ks.getD j 0) dIt).name.toList.isEmpty
def inC (l : List It) (ks : List Nat) : Int := if (List.range ks.length).all (isTx l ks) then (if 60 < (joinT l ks ks.length).size then 2 else 0) else 1
def inT (l : List It) (ks : List Nat) : ByteArray := if (List.range ks.length).all (isTx l ks) then (if 60 < (joinT l ks ks.length).size then ⟨#[]⟩ else joinT l ks ks.length) else ⟨#[]⟩
theorem in_no {l : List It} {ks : List Nat} {j : Nat} (hj : j < ks.length) (h : isTx l ks j = false) : inC l ks = 1 ∧ inT l ks = ⟨#[]⟩ := by
  have e : (List.range ks.length).all (isTx l ks) = false := by
    rw [List.all_eq_false]
    exact ⟨j, List.mem_range.2 hj, by rw [h]; simp⟩
  unfold inC inT
  rw [e]
  exact ⟨rfl, rfl⟩
theorem in_yes {l : List It} {ks : List Nat} (h : ∀ j, j < ks.length → isTx l ks j = true) : inC l ks = (if 60 < (joinT l ks ks.length).size then 2 else 0) ∧ inT l ks = (if 60 < (joinT l ks ks.length).size then ⟨#[]⟩ else joinT l ks ks.length) := by
  have e : (List.range ks.length).all (isTx l ks) = true := by
    rw [List.all_eq_true]
    exact fun j hj => h j (List.mem_range.1 hj)
  unfold inC inT
  rw [e]
  exact ⟨rfl, rfl⟩
theorem joinT_size {l : List It} {ks : List Nat} (hs : ∀ i, (l.getD i dIt).text.size ≤ 1000) : ∀ j, (joinT l ks j).size ≤ j * 1000
  | 0 => by simp [joinT]
  | j + 1 => by
    have h1 := joinT_size (ks := ks) hs j
    have h2 := hs (ks.getD j 0)
    unfold joinT
    rw [ByteArray.size_append]
    omega
theorem strCells_app (a b : ByteArray) : Lib.strCells (a ++ b) = Lib.strCells a ++ Lib.strCells b := by
  unfold Lib.strCells
  rw [ByteArray.data_append, Array.toList_append, List.map_append]
set_option maxRecDepth 100000 in
set_option maxHeartbeats 3200000 in
theorem implTextIn_any (bi oi n c k : Nat) (l : List It) (w : World) (hT : Tabs w) (h : ItsAt w (some ⟨bi, oi, none⟩) n c l) (hc : treeCode l = 0) (hk : k < n) (hs : ∀ i, (l.getD i dIt).text.size ≤ 1000) :
    Calls Tryz.prog 126 #[.slice (some ⟨bi, oi, none⟩) n c, .int .i64 (k : Int)] w (TxtRes w (inC l (kidsUp l l.length k)) (inT l (kidsUp l l.length k))) := by
  have hl := h.len
  have hn40 := (rises_of hc).few
  have KN := Lib.hid (fun W (hW : Below w.heap.size w W) => nodeAt_any bi oi n c k l W (tabs_kept hT hW) (h.below hW) hc hk)
  have hkl : k < l.length := by omega
  have hks : (kidsUp l l.length k).length ≤ 40 := by have := kidsUp_len l l.length k; omega
  obtain ⟨b0, o0, e0, hI⟩ := h.row.resolve_left (by omega)
  cases e0
  have HI : Hid (∀ i, i < l.length → ItAt w bi (oi + i * 5) (l.getD i dIt)) := Lib.hid fun i hi => hI i (by omega)
  have hbi : bi < w.heap.size := (hI k hk).lt
  have HS := Lib.hid hs
  unfold NodeAtRes at KN
  unfold TxtRes
  obtain ⟨ks, hks0⟩ : ∃ ks, kidsUp l l.length k = ks := ⟨_, rfl⟩
  rw [hks0] at hks ⊢
  have HNOT : Hid (∀ j, j < ks.length → isTx l ks j = false → inC l ks = 1 ∧ inT l ks = ⟨#[]⟩) := Lib.hid fun j h1 h2 => in_no h1 h2
  have HYES : Hid ((∀ j, j < ks.length → isTx l ks j = true) → inC l ks = (if 60 < (joinT l ks ks.length).size then 2 else 0) ∧ inT l ks = (if 60 < (joinT l ks ks.length).size then ⟨#[]⟩ else joinT l ks ks.length)) := Lib.hid in_yes
  generalize inC l ks = cd at HNOT HYES ⊢
  generalize inT l ks = tx at HNOT HYES ⊢
  have HKS := Lib.hid hks0
  clear h hT hl hc hks0 hs hI
  have hty := isText_yes
  have htn := isText_no
  have hey := isElem_yes
  go_enter Tryz.func126, Tryz.ntmps126
  go_wp2_with fail
  refine (KN.out _ (below1 _ _)).mono ?_
  rintro e w1 ⟨B, nb, KA, KNN, KC, rfl, hB, hN, hb1⟩
  have p2 := hN.c2 k hkl
  obtain ⟨hkn, hrow⟩ := hN.kidAt hkl
  rw [HKS.out] at hkn hrow
  have hz := hb1.size
  simp at hz
  replace hz : w.heap.size < w1.heap.size := by omega
  obtain ⟨hcc, hff⟩ := bcell hb1
  have HB1 := Lib.hid (below_then (below1 _ _) hb1)
  have hRC : ∀ W, Below w1.heap.size w1 W → (W.cell? ⟨w.heap.size, 0, none⟩ = some (.int .i64 0) ∧ W.cell? ⟨w.heap.size, 1, none⟩ = some (.string ByteArray.empty) ∧ W.frozen? ⟨w.heap.size, 0, none⟩ = false ∧ W.frozen? ⟨w.heap.size, 1, none⟩ = false) := fun W hb => by
    refine ⟨?_, ?_, ?_, ?_⟩
    · exact (hb.cell (p := ⟨w.heap.size, 0, none⟩) hz).trans ((hcc _ _ (by simp)).trans (by go_simp; try rfl))
    · exact (hb.cell (p := ⟨w.heap.size, 1, none⟩) hz).trans ((hcc _ _ (by simp)).trans (by go_simp; try rfl))
    · exact (hb.frozen (p := ⟨w.heap.size, 0, none⟩) hz).trans ((hff _ _ (by simp)).trans (by go_simp; try rfl))
    · exact (hb.frozen (p := ⟨w.heap.size, 1, none⟩) hz).trans ((hff _ _ (by simp)).trans (by go_simp; try rfl))
  have HRC := Lib.hid hRC
  have HN0 : Hid (∀ j, j < l.length → nb j < w1.heap.size ∧ w1.cell? ⟨nb j, 0, none⟩ = some (partV bi oi (l.getD j dIt) j)) := Lib.hid fun j hj => ⟨(hN.lt j hj).2, hN.c0 j hj⟩
  have HROW := Lib.hid hrow
  have HKN := Lib.hid hkn
  clear hRC hcc hff hb1 hN KN hrow
  have hk40 : KNN k ≤ 40 := by omega
  clear hkn
  generalize KNN k = m at p2 HKN HROW hk40
  generalize KA k = ka at p2 HROW
  generalize KC k = kc at p2
  unfold ptrN
  unfold ptrN at HROW
  have p2 := ((below1 w1 (.cells #[.pointer none, .slice none 0 0] 176)).cell (World.block_lt_of_cell? _ _ p2)).trans p2
  go_wp2
  go_loopw [27] (fun i wr => ∃ j : Nat, j ≤ m ∧ i = .int .i64 (j : Int) ∧ (∀ i, i < j → isTx l ks i = true) ∧ IsB wr w1.heap.size w1.heap.size (Lib.strCells (joinT l ks j)) ∧ Below w1.heap.size w1 wr ∧ w1.heap.size < wr.heap.size) (fun i _ => m - (intOf i).toNat)
  case atStart => exact ⟨0, Nat.zero_le _, rfl, fun i hi => by omega, Lib.IsBuilderF.of (Lib.fresh_isBuilder _ _ w1), below1 _ _, by simp⟩
  case round =>
    obtain ⟨j, hj, rfl, hall, hib, hb, hsz⟩ := hrel
    have HA := Lib.hid hall
    have HIB := Lib.hid hib
    have HB := Lib.hid hb
    clear hall hib hb p2
    obtain ⟨r0, r1, f0, f1⟩ := HRC.out wr HB.out
    have hjs := joinT_size (ks := ks) HS.out j
    by_cases hlt : j < m
    · obtain ⟨g, rfl, hg, hat⟩ := HROW.out.resolve_left (by omega)
      obtain ⟨c0, hkid⟩ := hat j hlt
      have d0 := (HB.out.cell (p := ⟨g, j, none⟩) hg).trans c0
      obtain ⟨hnl, c1⟩ := HN0.out _ hkid
      have d1 := (HB.out.cell (p := ⟨nb (ks.getD j 0), 0, none⟩) hnl).trans c1
      have q0 : (j : Int) < (m : Int) := by omega
      have hit := (HI.out _ hkid).below (HB1.out.trans (HB.out.mono HB1.out.size))
      have d2 := hit.c1
      have hst := HS.out (ks.getD j 0)
      have HNO2 := Lib.hid (HNOT.out j (by have := HKN.out; omega))
      have HYE2 : Hid (isTx l ks j = true → ∀ i, i < j + 1 → isTx l ks i = true) := Lib.hid fun e i hi => by
        rcases Nat.lt_or_ge i j with h | h
        · exact HA.out i h
        · obtain rfl : i = j := by omega
          exact e
      have HJN : Hid (joinT l ks (j + 1) = joinT l ks j ++ (l.getD (ks.getD j 0) dIt).text) := Lib.hid rfl
      unfold isTx at HNO2
      have HIX : Hid (isTx l ks j = (l.getD (ks.getD j 0) dIt).name.toList.isEmpty) := Lib.hid rfl
      unfold partV at d1
      clear hat c0 c1 hit
      generalize ks.getD j 0 = x at d0 d1 d2 hnl hkid hst HNO2 HJN HIX
      generalize l.getD x dIt = y at d1 d2 hst HNO2 HJN HIX
      cases hye : y.name.toList.isEmpty
      · obtain ⟨rfl, rfl⟩ := HNO2.out hye
        rw [hye, if_neg (by simp)] at d1
        clear HNO2 HYE2 HJN HIX
        have hzr : w.heap.size < wr.heap.size := by omega
        have b0 : (wr.alloc (.cells #[.pointer (some ⟨bi, oi + x * 5, none⟩)] 129)).cell? ⟨w.heap.size, 0, none⟩ = some (.int .i64 0) := ((below1 wr _).cell hzr).trans r0
        have b1 : (wr.alloc (.cells #[.pointer (some ⟨bi, oi + x * 5, none⟩)] 129)).cell? ⟨w.heap.size, 1, none⟩ = some (.string ByteArray.empty) := ((below1 wr _).cell hzr).trans r1
        have k0 : (wr.alloc (.cells #[.pointer (some ⟨bi, oi + x * 5, none⟩)] 129)).frozen? ⟨w.heap.size, 0, none⟩ = false := ((below1 wr _).frozen hzr).trans f0
        have k1 : (wr.alloc (.cells #[.pointer (some ⟨bi, oi + x * 5, none⟩)] 129)).frozen? ⟨w.heap.size, 1, none⟩ = false := ((below1 wr _).frozen hzr).trans f1
        have HB3 := Lib.hid (HB1.out.trans ((HB.out.trans ((below1 wr (.cells #[.pointer (some ⟨bi, oi + x * 5, none⟩)] 129)).mono HB.out.size)).mono HB1.out.size))
        go_upto_region 14 with fail
        clear r0 r1 f0 f1 d0 d1 d2
        generalize wr.alloc (.cells #[.pointer (some ⟨bi, oi + x * 5, none⟩)] 129) = W3 at b0 b1 k0 k1 HB3 ⊢
        go_wp2
        exact bodyPost_ret (v := .agg #[.int .i64 1, .string ⟨#[]⟩]) (by simp [results, Tryz.results126, go_sem, (two_set (.int .i64 1) (.string ⟨#[]⟩) b0 b1).1, (two_set (.int .i64 1) (.string ⟨#[]⟩) b0 b1).2]) rfl ⟨rfl, (HB3.out.setCell (Nat.le_refl _) _).setCell (Nat.le_refl _) _⟩
      · rw [hye, if_pos rfl] at d1
        have HX := Lib.hid (HYE2.out (HIX.out.trans hye))
        clear HNO2 HYE2 HIX
        have hw3 : w1.heap.size ≤ (wr.alloc (.cells #[.pointer (some ⟨bi, oi + x * 5, none⟩)] 128)).heap.size := by simp; omega
        have hlen : (Lib.strCells (joinT l ks j)).length ≤ 1000000 := by rw [Lib.strCells_length]; omega
        have d2 := ((below1 wr (.cells #[.pointer (some ⟨bi, oi + x * 5, none⟩)] 128)).cell (p := ⟨bi, oi + x * 5 + 1, none⟩) (World.block_lt_of_cell? _ _ d2)).trans d2
        go_wp2_with fail
        refine (writeString_any w1.heap.size w1.heap.size _ y.text _ (HIB.out.alloc _) (Nat.le_trans hlen (by decide)) (by omega) hw3).mono ?_
        rintro e w2 ⟨rfl, hat2, hb2, _⟩
        have hs2 := hb2.size
        have HB2 := Lib.hid ((HB.out.trans ((below1 wr (.cells #[.pointer (some ⟨bi, oi + x * 5, none⟩)] 128)).mono HB.out.size)).trans hb2)
        have HAT2 := Lib.hid hat2
        simp at hs2
        clear hat2 hb2 d0 d1 d2
        go_wp2
        go_roundw
        case rel => exact ⟨j + 1, by omega, by go_num, HX.out, .inr (by rw [HJN.out, strCells_app]; exact HAT2.out), HB2.out, by omega⟩
        case measure => simp [intOf]; omega
    · obtain rfl : j = m := by omega
      have hw3 : w1.heap.size ≤ wr.heap.size := by omega
      have hy := HYES.out fun i hi => HA.out i (by have := HKN.out; omega)
      rw [← HKN.out] at hy
      have HY := Lib.hid hy
      have KL := Lib.hid (Tryz.Builder_Len_f w1.heap.size w1.heap.size _ wr HIB.out)
      have KS := Lib.hid (Tryz.Builder_String_any_f w1.heap.size w1.heap.size (joinT l ks j).data.toList wr HIB.out hw3)
      have hb9 : (⟨(joinT l ks j).data.toList.toArray⟩ : ByteArray) = joinT l ks j := by cases joinT l ks j; simp
      rw [hb9] at KS
      rw [Lib.strCells_length] at KL
      clear hy HYES HNOT hb9 HIB
      generalize joinT l ks j = t at hjs HY KL KS
      go_wp2_with fail
      refine KL.out.mono ?_
      rintro e w2 ⟨rfl, rfl⟩
      by_cases h60 : 60 < t.size
      · have hy := HY.out
        rw [if_pos h60, if_pos h60] at hy
        obtain ⟨rfl, rfl⟩ := hy
        have q6 : (60 : Int) < (t.size : Int) := by omega
        clear HY KS KL
        go_wp2
        exact bodyPost_ret (v := .agg #[.int .i64 2, .string ⟨#[]⟩]) (by simp [results, Tryz.results126, go_sem, (two_set (.int .i64 2) (.string ⟨#[]⟩) r0 r1).1, (two_set (.int .i64 2) (.string ⟨#[]⟩) r0 r1).2]) rfl ⟨rfl, ((HB1.out.trans (HB.out.mono HB1.out.size)).setCell (Nat.le_refl _) _).setCell (Nat.le_refl _) _⟩
      · have hy := HY.out
        rw [if_neg h60, if_neg h60] at hy
        have q6 : ¬ (60 : Int) < (t.size : Int) := by omega
        obtain ⟨rfl, rfl⟩ := hy
        clear HY KL
        go_wp2_with fail
        refine KS.out.mono ?_
        rintro e w3 ⟨rfl, _, hb3⟩
        have HB4 := Lib.hid (HB.out.trans hb3)
        obtain ⟨b0, b1, k0, k1⟩ := HRC.out w3 HB4.out
        clear hb3 r0 r1 f0 f1
        go_wp2
        exact bodyPost_ret (v := .agg #[.int .i64 0, .string tx]) (by simp [results, Tryz.results126, go_sem, (two_set (.int .i64 0) (.string tx) b0 b1).1, (two_set (.int .i64 0) (.string tx) b0 b1).2]) rfl ⟨rfl, ((HB1.out.trans (HB4.out.mono HB1.out.size)).setCell (Nat.le_refl _) _).setCell (Nat.le_refl _) _⟩
end Go.Proofs.YtcaknhoaoodbfaaGreatDoor
namespace Go.Proofs.YtcaknhoaoodbfaaGreatDoor
open Go.ChangeShapes Go.WideShapes Go.ChangeAt Go.RowKit
set_option linter.unusedVariables false
theorem two_texts {l : List It} (h : treeCode l = 0) {i : Nat} (h1 : 1 ≤ i) (hi : i < l.length) (ha : (l.getD (i - 1) dIt).name.toList.isEmpty = true) (hb : (l.getD i dIt).name.toList.isEmpty = true) : dp l i ≠ dp l (i - 1) := by
  have hg := fun j (hj : j < l.length) => good_item h hj
  unfold treeCode at h
  split at h
  · omega
  · rw [find_no l dIt _ fun j hj => by simp only [hg j hj]; decide] at h
    have hs : stands l = true := by
      cases e : stands l
      · rw [e] at h; simp at h
      · rfl
    unfold stands at hs
    simp only [Bool.and_eq_true, List.all_eq_true, decide_eq_true_eq] at hs
    obtain ⟨_, hall⟩ := hs
    have := hall i (List.mem_range.2 hi)
    rw [Bool.or_eq_true, beq_iff_eq] at this
    rcases this with g | g
    · omega
    · unfold mayStand standB at g
      rw [Bool.not_eq_true', Bool.or_eq_false_iff, Bool.or_eq_false_iff, Bool.or_eq_false_iff] at g
      obtain ⟨_, g4⟩ := g
      rw [ha, hb] at g4
      simp at g4
      exact g4
theorem text_size {x : It} (h : itemCode x = 0) (he : x.name.toList.isEmpty = true) : x.text.size ≤ 60 := by
  unfold itemCode at h
  split at h
  · omega
  · try rw [if_pos he] at h
    unfold textCode at h
    split at h
    · omega
    · unfold textFault at h
      split at h
      · omega
      · rename_i h2
        simp at h2
        exact h2
theorem in_elem {l : List It} {ks : List Nat} {b : Nat} (hb : b ∈ ks) (he : (l.getD b dIt).name.toList.isEmpty = false) : inC l ks = 1 ∧ inT l ks = ⟨#[]⟩ := by
  obtain ⟨j, hj, e⟩ := List.mem_iff_getElem.1 hb
  refine in_no hj ?_
  have e2 : ks.getD j 0 = b := by rw [List.getD_eq_getElem?_getD, List.getElem?_eq_getElem hj, Option.getD_some, e]
  unfold isTx
  rw [e2]
  exact he
theorem in_text {l : List It} (h : treeCode l = 0) {a : Nat} (ha : a < l.length) :
    inC l (kidsUp l l.length a) = (if (textL l a).isSome then 0 else 1) ∧ inT l (kidsUp l l.length a) = txtT (textL l a) := by
  have R := rises_of h
  have hbd := endL_bounds ha
  have hks := kids_same R ha
  have hmem : ∀ b, b < l.length → a < b → b < endL l a → dp l b = dp l a + 1 → b ∈ kidsUp l l.length a := fun b hb h1 h2 h3 => by
    unfold kidsUp
    rw [List.mem_filter, List.mem_range]
    exact ⟨hb, (kid_iff R ha hb).2 ⟨h1, h2, h3⟩⟩
  unfold kidsL kidsTo at hks
  unfold textL
  rcases Nat.lt_or_ge (a + 1) (endL l a) with g | g
  · have hb : a + 1 < l.length := by omega
    have d1 := endL_in (l := l) (a := a) (i := a + 1) (by omega) g
    have d2 := (R.step (a + 1) (by omega) hb).2
    rw [Nat.add_sub_cancel] at d2
    have d3 : dp l (a + 1) = dp l a + 1 := by omega
    obtain ⟨f, hf⟩ : ∃ f, endL l a - (a + 1) = f + 1 := ⟨endL l a - (a + 1) - 1, by omega⟩
    cases hn : (l.getD (a + 1) dIt).name.toList.isEmpty
    · obtain ⟨e1, e2⟩ := in_elem (hmem (a + 1) hb (by omega) g d3) hn
      rw [hf, e1, e2, textF, hn]
      exact ⟨rfl, rfl⟩
    · rcases Nat.lt_or_ge (a + 2) (endL l a) with g2 | g2
      · have hb2 : a + 2 < l.length := by omega
        have c1 := endL_in (l := l) (a := a) (i := a + 2) (by omega) g2
        have c2 := R.text (a + 2) (by omega) hb2 (by rw [show a + 2 - 1 = a + 1 from by omega]; exact hn)
        rw [show a + 2 - 1 = a + 1 from by omega] at c2
        have hn2 : (l.getD (a + 2) dIt).name.toList.isEmpty = false := by
          cases e : (l.getD (a + 2) dIt).name.toList.isEmpty
          · rfl
          · have := two_texts h (i := a + 2) (by omega) hb2 (by rw [show a + 2 - 1 = a + 1 from by omega]; exact hn) e
            rw [show a + 2 - 1 = a + 1 from by omega] at this
            omega
        obtain ⟨e1, e2⟩ := in_elem (hmem (a + 2) hb2 (by omega) g2 (by omega)) hn2
        obtain ⟨f2, rfl⟩ : ∃ f2, f = f2 + 1 := ⟨f - 1, by omega⟩
        rw [hf, e1, e2, textF, hn, if_pos rfl, textF, show a + 1 + 1 = a + 2 from rfl, hn2]
        exact ⟨rfl, rfl⟩
      · obtain rfl : f = 0 := by omega
        rw [hf] at hks ⊢
        have hq : ((l.getD (a + 1) dIt).depth == (l.getD a dIt).depth + 1) = true := by
          rw [beq_iff_eq]
          exact d3
        rw [List.range'_succ, List.range'_zero, List.filter_cons, if_pos hq, List.filter_nil, List.map_cons, List.map_nil, List.map_eq_singleton_iff] at hks
        obtain ⟨b, hb1, hb2⟩ := hks
        obtain rfl : b = a + 1 := by omega
        have hsz := text_size (good_item h hb) hn
        rw [hb1]
        obtain ⟨e1, e2⟩ := in_yes (l := l) (ks := [a + 1]) (fun j hj => by
          have : j = 0 := by simpa using hj
          subst this
          exact hn)
        have hj : joinT l [a + 1] [a + 1].length = ByteArray.empty ++ (l.getD (a + 1) dIt).text := rfl
        have hj2 : ¬ 60 < (joinT l [a + 1] [a + 1].length).size := by
          rw [hj, ByteArray.size_append]
          simp
          exact hsz
        rw [if_neg hj2] at e1 e2
        rw [e1, e2, textF, hn, if_pos rfl, textF]
        exact ⟨rfl, rfl⟩
  · have hf : endL l a - (a + 1) = 0 := by omega
    rw [hf] at hks ⊢
    rw [List.range'_zero, List.filter_nil, List.map_nil, List.map_eq_nil_iff] at hks
    rw [hks]
    exact ⟨rfl, rfl⟩
theorem textL_size {l : List It} (h : treeCode l = 0) {a : Nat} (ha : a < l.length) {t : ByteArray} (ht : textL l a = some t) : t.size ≤ 60 := by
  obtain ⟨h1, h2⟩ := in_text h ha
  rw [ht] at h1 h2
  simp only [Option.isSome_some, if_true] at h1
  unfold txtT at h2
  dsimp only at h2
  unfold inC at h1
  unfold inT at h2
  by_cases hall : (List.range (kidsUp l l.length a).length).all (isTx l (kidsUp l l.length a)) = true
  · rw [if_pos hall] at h1 h2
    by_cases h60 : 60 < (joinT l (kidsUp l l.length a) (kidsUp l l.length a).length).size
    · rw [if_pos h60] at h1
      cases h1
    · rw [if_neg h60] at h2
      rw [← h2]
      omega
  · rw [if_neg hall] at h1
    cases h1
structure ShortPr (p : Pr) : Prop where
  s1 : p.sender.size ≤ 60
  s2 : p.goal.size ≤ 60
  s4 : p.status.size ≤ 60
theorem atts_small {x : It} (hg : itemCode x = 0) : x.attrs.length ≤ 5 ∧ ∀ j, j < x.attrs.length → (x.attrs.getD j dAt).value.size ≤ 60 := by
  cases he : x.name.toList.isEmpty
  · unfold itemCode at hg
    split at hg
    · omega
    · rw [if_neg (by rw [he]; simp)] at hg
      unfold elemCode at hg
      split at hg
      · omega
      · split at hg
        · omega
        · split at hg
          · unfold attrsCode at hg
            split at hg
            · omega
            · rename_i h5
              refine ⟨by omega, fun j hj => ?_⟩
              cases hf : x.attrs.find? (fun x => atFault x != 0) with
              | some y =>
                rw [hf] at hg
                have := List.find?_some hf
                rw [bne_iff_ne] at this
                exact absurd hg this
              | none =>
                have h2 := List.find?_eq_none.1 hf (x.attrs.getD j dAt) (by rw [List.getD_eq_getElem?_getD, List.getElem?_eq_getElem hj]; exact List.getElem_mem hj)
                have h3 : atFault (x.attrs.getD j dAt) = 0 := by simpa using h2
                generalize x.attrs.getD j dAt = y at h3
                unfold atFault at h3
                split at h3
                · unfold textFault at h3
                  split at h3
                  · omega
                  · rename_i h6
                    simp at h6
                    exact h6
                · omega
          · rename_i h3
            exact absurd hg h3
  · have e := text_attrs hg he
    rw [e]
    exact ⟨by decide, fun j hj => by simp at hj⟩
theorem atts_size {l : List It} (h : treeCode l = 0) {i : Nat} (hi : i < l.length) : (l.getD i dIt).attrs.length ≤ 5 ∧ ∀ j, j < (l.getD i dIt).attrs.length → ((l.getD i dIt).attrs.getD j dAt).value.size ≤ 60 := by
  have hg := good_item h hi
  generalize l.getD i dIt = x at hg
  exact atts_small hg
structure Box7 (w : World) (b : Nat) : Prop where
  c : ∀ i, i < 7 → ∃ v, w.cell? ⟨b, i, none⟩ = some v
  f : ∀ i, w.frozen? ⟨b, i, none⟩ = false
theorem Box7.below {w w' : World} {b : Nat} (h : Box7 w b) (hl : b < w.heap.size) (hb : Below w.heap.size w w') : Box7 w' b :=
  ⟨fun i hi => (h.c i hi).imp fun v hv => (hb.cell (p := ⟨b, i, none⟩) hl).trans hv, fun i => (hb.frozen (p := ⟨b, i, none⟩) hl).trans (h.f i)⟩
theorem empty_str {s : ByteArray} (h : s.toList.isEmpty = true) : s = ⟨#[]⟩ := by
  rw [ByteArray.toList_eq, List.isEmpty_iff] at h
  cases s with
  | mk d =>
    congr 1
    exact Array.toList_eq_nil_iff.1 h
theorem item_elem {x : It} (h : itemCode x = 0) (hx : x.name.toList.isEmpty = false) : x.text = ⟨#[]⟩ := by
  unfold itemCode at h
  split at h
  · omega
  · rw [if_neg (by rw [hx]; simp)] at h
    unfold elemCode at h
    split at h
    · omega
    · rename_i h2
      refine empty_str ?_
      cases e : x.text.toList.isEmpty
      · exact absurd e h2
      · rfl
theorem alloc_keep {W : World} {p : Addr} {v : Value} (h : W.cell? p = some v) (x : Obj) : (W.alloc x).cell? p = some v := ((below1 W x).cell (World.block_lt_of_cell? _ _ h)).trans h
end Go.Proofs.YtcaknhoaoodbfaaGreatDoor
