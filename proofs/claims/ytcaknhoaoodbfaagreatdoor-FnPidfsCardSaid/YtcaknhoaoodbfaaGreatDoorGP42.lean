/- impl.PresenceOfPidf. -/
import Derived.Test.YtcaknhoaoodbfaaGreatDoorGP38
import Derived.Test.YtcaknhoaoodbfaaGreatDoorGP31
import Derived.Test.YtcaknhoaoodbfaaGreatDoorGP37
import Derived.Test.YtcaknhoaoodbfaaGreatDoorGP36
import Derived.Test.YtcaknhoaoodbfaaGreatDoorGP32
import Derived.Test.YtcaknhoaoodbfaaGreatDoorGP41
import Derived.Test.YtcaknhoaoodbfaaGreatDoorGP0
import Derived.Test.YtcaknhoaoodbfaaGreatDoorGP35
import Derived.Test.YtcaknhoaoodbfaaGreatDoorGP27
import Derived.Test.YtcaknhoaoodbfaaGreatDoorGP11
import Derived.Deep.RegionHeld3
import Derived.Deep.DeepCutAuto
namespace Go.Proofs.YtcaknhoaoodbfaaGreatDoor
open Go.ChangeShapes Go.WideShapes Go.ChangeAt Go.RowKit
set_option linter.unusedVariables false
set_option linter.unusedSimpArgs false
theorem fieldR_pres (cd k s u : Int) (f t v : ByteArray) (a : Option Addr) (n q : Nat) (W : World) : (Instr.field 33 (.agg #[.int .i64 cd, .int .i64 k, .string f, .string t, .int .i64 s, .string v, .int .i64 u, .slice a n q]) 1).run Tryz.prog W = .ok (.agg #[.int .i64 k, .string f, .string t, .int .i64 s, .string v, .int .i64 u, .slice a n q]) W := by kernel_rfl
theorem fieldR_items (c : Int) (a : Option Addr) (n q : Nat) (W : World) : (Instr.field 29 (.agg #[.int .i64 c, .slice a n q]) 1).run Tryz.prog W = .ok (.slice a n q) W := by kernel_rfl
theorem projT_smallPr {p : Pr} (h : SmallPr p) : SmallPr (projT p) := by
  have h1 := h.texts
  unfold projT
  split
  · refine ⟨⟨?_, ?_, ?_⟩, ⟨(by show (0 : Nat) ≤ _; exact Nat.zero_le _), fun i hi => ?_⟩⟩
    · exact h1.1
    · show ByteArray.empty.size ≤ _
      exact Nat.zero_le _
    · exact h1.2.2
    · exact absurd hi (by show ¬ (i < 0); omega)
  · exact ⟨⟨Nat.zero_le _, Nat.zero_le _, Nat.zero_le _⟩, ⟨(by show (0 : Nat) ≤ _; exact Nat.zero_le _), fun i hi => absurd hi (by show ¬ (i < 0); omega)⟩⟩
set_option maxRecDepth 100000 in
set_option maxHeartbeats 6400000 in
theorem implPresenceOfPidf_any (lo hi : Nat) (a : Option Addr) (n c : Nat) (l : List It) (w : World) (hs : SmallIts l) (h : OwnIts w lo hi a n c l) (hT : Tabs w) (hPw : Pows w) :
    Calls Tryz.prog 35 #[.slice a n c] w (PrrOwn w (pofCode l) (pofVal l)) := by
  have hits := h.its
  have KT := Lib.hid (fun W (hb : Below w.heap.size w W) => implTreeFault_any a n c l W (tabs_kept hT hb) (hits.below hb))
  have HB0 := Lib.hid (fun o => below1 w o)
  by_cases hc : treeCode l = 0
  case neg =>
    obtain ⟨e1, e2⟩ := pof_bad hc
    rw [e1, e2]
    generalize treeCode l = cd at hc KT ⊢
    have h0b : (cd != 0) = true := by rw [bne_iff_ne]; exact hc
    clear e1 e2 h hs hits hT hPw
    go_enter Tryz.func35, Tryz.ntmps35
    go_wp2_with fail
    refine (KT.out _ (HB0.out _)).mono ?_
    rintro e w1 ⟨rfl, hb1⟩
    obtain ⟨hc1, hf1⟩ := bcell hb1
    have HB1 := Lib.hid hb1
    clear hb1
    go_wp2
    exact bodyPost_ret (v := .agg #[.int .i64 cd, .int .i64 0, .string ⟨#[]⟩, .string ⟨#[]⟩, .int .i64 0, .string ⟨#[]⟩, .int .i64 0, .slice none 0 0]) (by simp [results, Tryz.results35, go_sem, hc1]) rfl (prr_code _ _ _ (below8 (below_then (HB0.out _) HB1.out) (Nat.le_refl _) _ _ _ _ _ _ _ _))
  have hn1 : 0 < n := by have h1 := (rises_of hc).some; have h2 := h.len; omega
  obtain ⟨b1, o1, rfl, hat⟩ := hits.row.resolve_left (by omega)
  have KG := Lib.hid (fun W (hb : Below w.heap.size w W) => toldIn_any b1 o1 n c l W (tabs_kept hT hb) (hPw.below hb) hc (hits.below hb))
  have hgo := guessP_ok hc
  have hsm := hgo.small
  have hmr : (guessP l).more = [] := hgo.2.2
  have KJ := Lib.hid (fun W (hb : Below w.heap.size w W) => implProjectionOf_any (guessP l) none 0 0 0 0 W (tabs_kept hT hb) hsm (by rw [hmr]; exact OwnIts.nil W 0 0))
  have hsq := projT_smallPr hsm
  obtain ⟨hs1, hs2⟩ := told_same hc
  have hno := pof_no hc
  have hyes := pof_yes hc
  rw [hc] at KT
  generalize projCode (guessP l) = jc at KJ
  generalize projT (guessP l) = q at KJ hsq hs1 hs2
  generalize guessP l = g at KG KJ
  have KQ := Lib.hid (fun a n c lo hi W (hb : Below w.heap.size w W) h => implPidfOf_any q a n c lo hi W (tabs_kept hT hb) (hPw.below hb) hsq h)
  have KS := Lib.hid (fun W a' n' c' (bb : Bool) (hbb : bb = true ↔ pidfT q = l) (h1 : ItsAt W a' n' c' (pidfT q)) (hb : Below w.heap.size w W) => implSameTrees_any a' (some ⟨b1, o1, none⟩) n' n c' c (pidfT q) l W bb hbb h1 (hits.below hb))
  have HNO : Hid (pidfT q ≠ l → pofCode l = 1 ∧ pofVal l = dPr) := Lib.hid fun h => hno fun h2 => h (hs1.2 h2)
  have HYES : Hid (pidfT q = l → pofCode l = 0 ∧ pofVal l = q) := Lib.hid fun h => by
    have h2 := hyes (hs1.1 h)
    rw [hs2 (hs1.1 h)]
    exact h2
  generalize pofCode l = pc at HNO HYES ⊢
  generalize pofVal l = pv at HNO HYES ⊢
  unfold GuessRes at KG
  unfold PrrOwn at KJ
  unfold TreeOwn at KQ
  clear h hs hits hT hPw hgo hsm hmr hsq hs1 hs2 hno hyes hc hat hn1
  generalize pidfT q = t at KQ KS HNO HYES
  obtain ⟨gk, gf, gt, gs, gu, gp, gm⟩ := g
  obtain ⟨qk, qf, qt, qs, qu, qp, qm⟩ := q
  dsimp only at KG KJ KQ
  generalize projCode ⟨qk, qf, qt, qs, qu, qp, qm⟩ = tc at KQ
  have fq := fun cd a n c W => fieldR_pres cd qk qs qp qf qt qu a n c W
  have fi := fun c a n q W => fieldR_items c a n q W
  by_cases he : t = l
  · obtain ⟨rfl, rfl⟩ := HYES.out he
    have KS2 := Lib.hid (fun W a' n' c' h1 hb => KS.out W a' n' c' true ⟨fun _ => he, fun _ => rfl⟩ h1 hb)
    clear HNO HYES he KS
    go_enter Tryz.func35, Tryz.ntmps35
    go_wp2_with fail
    refine (KT.out _ (HB0.out _)).mono ?_
    rintro e w1 ⟨rfl, hb1⟩
    have HB1 := Lib.hid (below_then (HB0.out _) hb1)
    have HA1 := Lib.hid hb1
    clear hb1
    go_wp2_with fail
    refine (KG.out _ HB1.out).mono ?_
    rintro e w2 ⟨rfl, hb2⟩
    have HB2 := Lib.hid (below_then HB1.out hb2)
    have HA2 := Lib.hid (below_then HA1.out hb2)
    clear hb2
    go_wp2_with fail
    refine (KJ.out _ HB2.out).mono ?_
    rintro e w3 ⟨a3, n3, c3, rfl, ho3, hb3⟩
    have hbx := below_then hb3 (below1 w3 (.cells #[.int .i64 qk, .string qf, .string qt, .int .i64 qs, .string qu, .int .i64 qp, .slice a3 n3 c3] 26))
    have HB3 := Lib.hid (below_then HB2.out hbx)
    have HA3 := Lib.hid (below_then HA2.out hbx)
    have HO3 := Lib.hid (ho3.below (below1 w3 (.cells #[.int .i64 qk, .string qf, .string qt, .int .i64 qs, .string qu, .int .i64 qp, .slice a3 n3 c3] 26)))
    have HP3 := Lib.hid (PrAt.new w3 26 ⟨qk, qf, qt, qs, qu, qp, qm⟩ a3 n3 c3)
    clear hbx
    clear hb3 ho3
    go_wp2_with fail
    refine (KQ.out _ _ _ _ _ _ HB3.out HO3.out).mono ?_
    rintro e w4 ⟨a4, n4, c4, rfl, ho4, hb4⟩
    have HB4 := Lib.hid (below_then HB3.out hb4)
    have HA4 := Lib.hid (below_then HA3.out hb4)
    have HO4 := Lib.hid ho4
    have HN4 := Lib.hid hb4
    clear hb4 ho4
    go_wp2_with fail
    refine (KS2.out _ _ _ _ HO4.out.its HB4.out).mono ?_
    rintro e w5 ⟨rfl, hb5⟩
    have hb9 := below_then HA4.out hb5
    obtain ⟨hc1, hf1⟩ := bcell hb9
    have HB9 := Lib.hid (below_then (HB0.out _) hb9)
    have OW3 := Lib.hid ((HO3.out.below HN4.out).below hb5)
    have HZ2 := Lib.hid HB2.out.size
    have HZ : Hid (w.heap.size + 1 ≤ w2.heap.size ∧ w3.heap.size ≤ w5.heap.size) := Lib.hid ⟨by have := HA2.out.size; simpa using this, by have h1 := HN4.out.size; have h2 := hb5.size; simp at h1; omega⟩
    have P5 := (HP3.out.below HN4.out).below hb5
    have y0 := P5.c0
    have y1 := P5.c1
    have y2 := P5.c2
    have y3 := P5.c3
    have y4 := P5.c4
    have y5 := P5.c5
    have y6 := P5.c6
    dsimp only at y0 y1 y2 y3 y4 y5 y6
    clear P5
    clear hb9 hb5
    go_wp2
    refine bodyPost_ret (v := .agg #[.int .i64 0, .int .i64 qk, .string qf, .string qt, .int .i64 qs, .string qu, .int .i64 qp, .slice a3 n3 c3]) (by simp [results, Tryz.results35, go_sem, hc1]) rfl ?_
    exact ⟨_, _, _, rfl, (own8 OW3.out (by have := HZ.out; omega) _ _ _ _ _ _ _ _).mono (by have := HZ.out; omega) (by have := HZ.out; simp; omega), below8 HB9.out (Nat.le_refl _) _ _ _ _ _ _ _ _⟩
  · obtain ⟨rfl, rfl⟩ := HNO.out he
    have KS2 := Lib.hid (fun W a' n' c' h1 hb => KS.out W a' n' c' false ⟨fun h => (by cases h), fun h => absurd h he⟩ h1 hb)
    clear HNO HYES he KS
    go_enter Tryz.func35, Tryz.ntmps35
    go_wp2_with fail
    refine (KT.out _ (HB0.out _)).mono ?_
    rintro e w1 ⟨rfl, hb1⟩
    have HB1 := Lib.hid (below_then (HB0.out _) hb1)
    have HA1 := Lib.hid hb1
    clear hb1
    go_wp2_with fail
    refine (KG.out _ HB1.out).mono ?_
    rintro e w2 ⟨rfl, hb2⟩
    have HB2 := Lib.hid (below_then HB1.out hb2)
    have HA2 := Lib.hid (below_then HA1.out hb2)
    clear hb2
    go_wp2_with fail
    refine (KJ.out _ HB2.out).mono ?_
    rintro e w3 ⟨a3, n3, c3, rfl, ho3, hb3⟩
    have hbx := below_then hb3 (below1 w3 (.cells #[.int .i64 qk, .string qf, .string qt, .int .i64 qs, .string qu, .int .i64 qp, .slice a3 n3 c3] 26))
    have HB3 := Lib.hid (below_then HB2.out hbx)
    have HA3 := Lib.hid (below_then HA2.out hbx)
    have HO3 := Lib.hid (ho3.below (below1 w3 (.cells #[.int .i64 qk, .string qf, .string qt, .int .i64 qs, .string qu, .int .i64 qp, .slice a3 n3 c3] 26)))
    have HP3 := Lib.hid (PrAt.new w3 26 ⟨qk, qf, qt, qs, qu, qp, qm⟩ a3 n3 c3)
    clear hbx
    clear hb3 ho3
    go_wp2_with fail
    refine (KQ.out _ _ _ _ _ _ HB3.out HO3.out).mono ?_
    rintro e w4 ⟨a4, n4, c4, rfl, ho4, hb4⟩
    have HB4 := Lib.hid (below_then HB3.out hb4)
    have HA4 := Lib.hid (below_then HA3.out hb4)
    have HO4 := Lib.hid ho4
    clear hb4 ho4
    go_wp2_with fail
    refine (KS2.out _ _ _ _ HO4.out.its HB4.out).mono ?_
    rintro e w5 ⟨rfl, hb5⟩
    have hb9 := below_then HA4.out hb5
    obtain ⟨hc1, hf1⟩ := bcell hb9
    have HB9 := Lib.hid (below_then (HB0.out _) hb9)
    clear hb9 hb5
    go_wp2
    exact bodyPost_ret (v := .agg #[.int .i64 1, .int .i64 0, .string ⟨#[]⟩, .string ⟨#[]⟩, .int .i64 0, .string ⟨#[]⟩, .int .i64 0, .slice none 0 0]) (by simp [results, Tryz.results35, go_sem, hc1]) rfl (prr_code _ _ _ (below8 HB9.out (Nat.le_refl _) _ _ _ _ _ _ _ _))
def shapeI (x : It) : Int × Bool := (x.depth, x.name.toList.isEmpty)
def stL (m : List (Int × Bool)) : Bool := decide ((m.getD 0 (0, true)).1 = 0) && !(m.getD 0 (0, true)).2 && (List.range m.length).all fun i => i == 0 || standB (m.getD i (0, true)).1 (m.getD (i - 1) (0, true)).1 (m.getD i (0, true)).2 (m.getD (i - 1) (0, true)).2
theorem shape_d : shapeI dIt = (0, true) := by
  show ((0 : Int), (ByteArray.empty).toList.isEmpty) = _
  rw [show (ByteArray.empty).toList.isEmpty = true from by rw [empty_iff]; rfl]
theorem stands_shape (l : List It) : stands l = stL (l.map shapeI) := by
  have g : ∀ i, (l.map shapeI).getD i (0, true) = shapeI (l.getD i dIt) := fun i => by
    rw [← shape_d, List.getD_eq_getElem?_getD, List.getD_eq_getElem?_getD, List.getElem?_map]
    cases l[i]? <;> rfl
  unfold stands stL mayStand
  simp only [g, List.length_map]
  rfl
theorem shape_elem (d : Int) (sp nm : ByteArray) (es : List At) (h : 0 < nm.size) : shapeI (elemI d sp nm es) = (d, false) := by
  show (d, nm.toList.isEmpty) = _
  rw [size_empty h]
theorem shape_text (d : Int) (t : ByteArray) : shapeI (textI d t) = (d, true) := by
  show (d, (⟨#[]⟩ : ByteArray).toList.isEmpty) = _
  rw [show (⟨#[]⟩ : ByteArray).toList.isEmpty = true from by first | (rw [empty_iff]; done) | (rw [empty_iff]; rfl)]
theorem shape_root (f : ByteArray) : shapeI (rootP8 f) = (0, false) := shape_elem _ _ _ _ (by decide)
theorem actW_size (s : Int) : 0 < (actW s).size := by unfold actW; split <;> decide
theorem shapes_head (f : ByteArray) (k : Int) : (headP8 f k).map shapeI = [(0, false), (1, false), (2, false), (3, false), (4, true)] := by
  unfold headP8
  simp only [List.map_cons, List.map_nil]
  rw [shape_root, shape_elem _ _ _ _ (by decide), shape_elem _ _ _ _ (by decide), shape_elem _ _ _ _ (by decide), shape_text]
theorem shapes_acts (s : Int) : (actsP8 s).map shapeI = [] ∨ (actsP8 s).map shapeI = [(2, false), (3, false)] := by
  unfold actsP8
  split
  · exact .inl rfl
  · right
    simp only [List.map_cons, List.map_nil]
    rw [shape_elem _ _ _ _ (by decide), shape_elem _ _ _ _ (actW_size s)]
theorem shapes_cont (f : ByteArray) (p : Int) : (contP8 f p).map shapeI = [] ∨ (contP8 f p).map shapeI = [(2, false), (3, true)] := by
  unfold contP8
  split
  · exact .inl rfl
  · right
    simp only [List.map_cons, List.map_nil]
    rw [shape_elem _ _ _ _ (by decide), shape_text]
theorem shapes_note (u : ByteArray) : (noteP8 u).map shapeI = [] ∨ (noteP8 u).map shapeI = [(2, false), (3, true)] := by
  unfold noteP8
  split
  · exact .inl rfl
  · right
    simp only [List.map_cons, List.map_nil]
    rw [shape_elem _ _ _ _ (by decide), shape_text]
theorem pidf_stands (q : Pr) : stands (pidfL q) = true := by
  rw [stands_shape]
  unfold pidfL
  rw [List.map_append, List.map_append, List.map_append, shapes_head]
  rcases shapes_acts q.shown with h1 | h1 <;> rcases shapes_cont q.sender q.prio with h2 | h2 <;> rcases shapes_note q.status with h3 | h3 <;> rw [h1, h2, h3] <;> decide
theorem pidf_tree {p : Pr} (h : projCode p = 0) : treeCode (pidfL (proj p)) = 0 := by
  have hf := pidf_fine h
  have hl := pidfL_len (proj p)
  have hl5 : 5 ≤ (pidfL (proj p)).length := by
    unfold pidfL headP8
    simp only [List.length_append, List.length_cons]
    omega
  rw [treeCode_end (by omega) (fun j hj => by
    rw [List.getD_eq_getElem?_getD, List.getElem?_eq_getElem hj]
    exact (hf _ (List.getElem_mem hj)).1), if_pos (pidf_stands _)]
theorem pidfT_is {p : Pr} (h : projCode p = 0) : pidfT p = pidfL (proj p) := by unfold pidfT; rw [if_pos h]
theorem pof_pidf {p : Pr} (h : projCode p = 0) : treeCode (pidfT p) = 0 ∧ pofCode (pidfT p) = 0 ∧ pofVal (pidfT p) = projT p := by
  rw [pidfT_is h, projT_is h]
  have ht := pidf_tree h
  have hg := (guess_right (own_proj h) (rises_of ht)).1
  have hT : Tells (pidfL (proj p)) (guessM (pidfL (proj p))) := by
    rw [hg]
    exact ⟨proj_code h, proj_twice p, rfl⟩
  refine ⟨ht, ?_, ?_⟩
  · unfold pofCode
    rw [if_neg (by rw [Decidable.not_not]; exact ht), if_pos hT]
  · unfold pofVal
    rw [if_neg (by rw [Decidable.not_not]; exact ht), if_pos hT, hg]
theorem pidf_pof {l : List It} (h : pofCode l = 0) : projCode (pofVal l) = 0 ∧ pidfT (pofVal l) = l := by
  unfold pofCode at h
  split at h
  · rename_i h1; exact absurd h h1
  · rename_i h1
    split at h
    · rename_i hT
      have e : pofVal l = guessM l := by unfold pofVal; rw [if_neg h1, if_pos hT]
      obtain ⟨t1, t2, t3⟩ := hT
      rw [e, pidfT_is t1, t2]
      exact ⟨t1, t3⟩
    · omega
structure InRow (W : World) (a : Option Addr) (n c : Nat) (xs : List Int) : Prop where
  max : n ≤ maxLen
  len : xs.length = n
  byte : ∀ i, 0 ≤ xs.getD i 0 ∧ xs.getD i 0 ≤ 255
  row : n = 0 ∨ ∃ rb ro, a = some ⟨rb, ro, none⟩ ∧ rb < W.heap.size ∧ ∀ i, i < n → W.cell? ⟨rb, ro + i, none⟩ = some (.int .u8 (xs.getD i 0))
theorem InRow.nil (W : World) : InRow W none 0 0 [] := ⟨by decide, rfl, fun i => by simp, .inl rfl⟩
theorem InRow.cells {W : World} {x : Addr} {n : Nat} {zs : List Int} (hn : n ≤ zs.length) (hcell : ∀ i, i < zs.length → W.cell? (x.add i) = some (.int .u8 (zs.getD i 0))) :
    n = 0 ∨ ∃ rb ro, some x = some ⟨rb, ro, none⟩ ∧ rb < W.heap.size ∧ ∀ i, i < n → W.cell? ⟨rb, ro + i, none⟩ = some (.int .u8 (zs.getD i 0)) := by
  by_cases h0 : n = 0
  · exact .inl h0
  · obtain ⟨b, o, s⟩ := x
    have hc := hcell 0 (by omega)
    have hs : s = none := by simpa [Addr.add] using World.cell?_spot hc
    subst hs
    refine .inr ⟨b, o, rfl, by simpa [Addr.add] using World.block_lt_of_cell? W _ hc, fun i hi => ?_⟩
    have := hcell i (by omega)
    rwa [Addr.add_lit] at this
theorem InRow.ofCells {W : World} {x : Addr} {n c : Nat} {zs : List Int} (hl : n ≤ c) (hm : c ≤ maxLen) (hz : zs.length = c) (hcell : ∀ i, i < zs.length → W.cell? (x.add i) = some (.int .u8 (zs.getD i 0)))
    (hwz : ∀ y ∈ zs, (Lit.int .u8 y).wf = true) : InRow W (some x) n c (zs.take n) := by
  have hb : ∀ i, 0 ≤ zs.getD i 0 ∧ zs.getD i 0 ≤ 255 := by
    intro i
    rw [List.getD_eq_getElem?_getD]
    by_cases hi : i < zs.length
    · rw [List.getElem?_eq_getElem hi]
      have := hwz _ (List.getElem_mem hi)
      simp only [Lit.wf, Bool.and_eq_true, decide_eq_true_eq] at this
      exact this
    · rw [List.getElem?_eq_none (by omega)]
      simp
  have hg : ∀ i, i < n → (zs.take n).getD i 0 = zs.getD i 0 := fun i hi => by
    simp only [List.getD_eq_getElem?_getD, List.getElem?_take, hi, if_true]
  refine ⟨Nat.le_trans hl hm, by rw [List.length_take]; omega, fun i => ?_, ?_⟩
  · by_cases hi : i < n
    · rw [hg i hi]
      exact hb i
    · rw [List.getD_eq_getElem?_getD, List.getElem?_eq_none (by rw [List.length_take]; omega)]
      simp
  · rcases InRow.cells (x := x) (n := n) (by omega) hcell with h | ⟨rb, ro, h1, h2, h3⟩
    · exact .inl h
    · exact .inr ⟨rb, ro, h1, h2, fun i hi => by rw [hg i hi]; exact h3 i hi⟩
theorem small_projT {p : Pr} (h : SmallPr p) : SmallPr (projT p) := by
  have h1 := projT_small h
  have h2 : (projT p).goal.size ≤ 1048576 ∧ (projT p).status.size ≤ 1048576 := by
    unfold projT
    split
    · exact ⟨by show (0 : Nat) ≤ _; omega, h.texts.2.2⟩
    · exact ⟨by show (0 : Nat) ≤ _; omega, by show (0 : Nat) ≤ _; omega⟩
  exact ⟨⟨by omega, h2.1, h2.2⟩, by rw [projT_more]; exact ⟨by decide, fun i hi => by simp at hi⟩⟩
theorem small_dPr : SmallPr dPr := ⟨⟨by decide, by decide, by decide⟩, ⟨by decide, fun i hi => by simp [dPr] at hi⟩⟩
theorem small_pof (l : List It) : SmallPr (pofVal l) := by
  unfold pofVal
  split
  · exact small_dPr
  · rename_i h
    split
    · exact (guessM_ok (Decidable.not_not.1 h)).small
    · exact small_dPr
theorem SmallPr.size {p : Pr} (h : SmallPr p) : PrSize p := ⟨by have := h.texts; omega, by have := h.texts; omega, by have := h.texts; omega⟩
structure V2 (w : World) (b : Nat) (v0 v1 : Value) : Prop where
  lt : b < w.heap.size
  c0 : w.cell? ⟨b, 0, none⟩ = some v0
  c1 : w.cell? ⟨b, 1, none⟩ = some v1
theorem V2.new (w : World) (T : TypeId) (v0 v1 : Value) : V2 (w.alloc (.cells #[v0, v1] T)) w.heap.size v0 v1 := ⟨by simp, by simp, by simp⟩
theorem V2.below {w w' : World} {b : Nat} {v0 v1 : Value} (h : V2 w b v0 v1) (hb : Below w.heap.size w w') : V2 w' b v0 v1 := ⟨Nat.lt_of_lt_of_le h.lt hb.size, (hb.cell (by exact h.lt)).trans h.c0, (hb.cell (by exact h.lt)).trans h.c1⟩
set_option maxRecDepth 100000 in
set_option maxHeartbeats 3000000 in
theorem fnPidfs_walk0 (a : Option Addr) (n c : Nat) (xs : List Int) (w : World) (hC : CodeAt w a n c xs) (hT : Tabs w) (hPw : Pows w) :
    Calls Tryz.prog 4 #[.slice a n c] w fun e w' => e = .returned (.bool true) ∧ Below w.heap.size w w' := by
  have hn := hC.size
  have hbig : decide (1048576 < n) = false := by simp; omega
  have HC := Lib.hid hC
  have HT := Lib.hid (fun W (h : Below w.heap.size w W) => tabs_kept hT h)
  have HP := Lib.hid (fun W (h : Below w.heap.size w W) => hPw.below h)
  clear hC hT hPw
  go_enter Tryz.func4, Tryz.ntmps4
  go_wp2_with fail
  refine (lwBig_any a n c (by omega) _).mono ?_
  rintro e w1 ⟨rfl, rfl⟩
  rw [hbig]
  go_wp2_with fail
  have KD := drawPidfOf_any a n c xs w1 HC.out
  unfold TopPr at KD
  refine KD.mono ?_
  clear KD
  rintro e w2 ⟨y, xy, my, qy, rfl, ho, hPD, hb2⟩
  have hsy := hPD.small
  have OY := Lib.hid ho
  have B2 := Lib.hid hb2
  have KI1 := Lib.hid (fun W (h : Below w2.heap.size w2 W) => implPidfOf_any y (some xy) my qy w1.heap.size w2.heap.size W (HT.out W (below_then B2.out h)) (HP.out W (below_then B2.out h)) hsy (OY.out.below h))
  have KS1 := Lib.hid (fun W (h : Below w2.heap.size w2 W) => specPidfOf_any y (some xy) my qy w1.heap.size w2.heap.size W hsy (OY.out.below h))
  have KY := Lib.hid (fun W (h : Below w2.heap.size w2 W) => implProjectionOf_any y (some xy) my qy w1.heap.size w2.heap.size W (HT.out W (below_then B2.out h)) hsy (OY.out.below h))
  unfold TreeOwn at KI1 KS1
  unfold PrrOwn at KY
  clear ho hPD hb2
  go_wp2_with fail
  refine (KI1.out _ (below1 w2 (.cells #[.int .i64 y.kind, .string y.sender, .string y.goal, .int .i64 y.shown, .string y.status, .int .i64 y.prio, .slice (some xy) my qy] 26))).mono ?_
  rintro e w3 ⟨at', nt, ct, rfl, hot, hb3⟩
  have XP3 := Lib.hid ((X7.new w2 26 (.int .i64 y.kind) (.string y.sender) (.string y.goal) (.int .i64 y.shown) (.string y.status) (.int .i64 y.prio) (.slice (some xy) my qy)).below hb3)
  have B23 := Lib.hid (below_then (below1 w2 (.cells #[.int .i64 y.kind, .string y.sender, .string y.goal, .int .i64 y.shown, .string y.status, .int .i64 y.prio, .slice (some xy) my qy] 26)) hb3)
  have OT := Lib.hid hot
  clear hb3 hot
  have bx := below1 w3 (.cells #[.int .i64 (projCode y), .slice at' nt ct] 29)
  have KD := drawProjectionOf_any a n c xs _ (HC.out.below (below_then B2.out (below_then B23.out bx)))
  unfold TopPr at KD
  go_wp2_with fail
  refine KD.mono ?_
  clear KD
  rintro e w4 ⟨z, xz, mz, qz, rfl, ho, hPD, hb4⟩
  have hsz := hPD.small
  have b34 := below_then bx hb4
  have OZ := Lib.hid ho
  have B4 := Lib.hid (below_then B2.out (below_then B23.out b34))
  have B24 := Lib.hid (below_then B23.out b34)
  have XP4 := Lib.hid (XP3.out.below b34)
  have XT4 := Lib.hid ((V2.new w3 29 (.int .i64 (projCode y)) (.slice at' nt ct)).below hb4)
  have OT4 := Lib.hid (OT.out.below b34)
  have hz4 := OZ.out
  clear ho hPD hb4 bx b34 XP3 B23 hz4
  have KI2 := Lib.hid (fun W (h : Below w4.heap.size w4 W) => implProjectionOf_any z (some xz) mz qz _ _ W (HT.out W (below_then B4.out h)) hsz (OZ.out.below h))
  have KS2 := Lib.hid (fun W (h : Below w4.heap.size w4 W) => specProjectionOf_any z (some xz) mz qz _ _ W hsz (OZ.out.below h))
  unfold PrrOwn at KI2 KS2
  go_wp2_with fail
  refine (KI2.out _ (below1 w4 (.cells #[.int .i64 z.kind, .string z.sender, .string z.goal, .int .i64 z.shown, .string z.status, .int .i64 z.prio, .slice (some xz) mz qz] 26))).mono ?_
  rintro e w5 ⟨aj, nj, cj, rfl, hoj, hb5⟩
  have b45 := below_then (below1 w4 (.cells #[.int .i64 z.kind, .string z.sender, .string z.goal, .int .i64 z.shown, .string z.status, .int .i64 z.prio, .slice (some xz) mz qz] 26)) hb5
  have XQ5 := Lib.hid ((X7.new w4 26 (.int .i64 z.kind) (.string z.sender) (.string z.goal) (.int .i64 z.shown) (.string z.status) (.int .i64 z.prio) (.slice (some xz) mz qz)).below hb5)
  have XP5 := Lib.hid (XP4.out.below b45)
  have XT5 := Lib.hid (XT4.out.below b45)
  have OT5 := Lib.hid (OT4.out.below b45)
  have B5 := Lib.hid (below_then B4.out b45)
  have B25 := Lib.hid (below_then B24.out b45)
  have B45 := Lib.hid b45
  have OJ := Lib.hid hoj
  have HFJ : Hid (projCode z = 0 → presCode (projT z) = 0 ∧ projCode (projT z) = 0 ∧ projT (projT z) = projT z) := Lib.hid (fun h => by rw [projT_is h]; exact ⟨proj_pres h, proj_code h, projT_proj h⟩)
  have hsj := small_projT hsz
  generalize projT z = J at *
  clear hoj hb5 b45 XP4 XT4 OT4 B4 B24
  have bx := below1 w5 (.cells #[.int .i64 (projCode z), .int .i64 J.kind, .string J.sender, .string J.goal, .int .i64 J.shown, .string J.status, .int .i64 J.prio, .slice aj nj cj] 33)
  have KD := drawPresenceOfPidf_any a n c xs _ (HC.out.below (below_then B5.out bx))
  unfold TopIts at KD
  go_wp2_with fail
  refine KD.mono ?_
  clear KD
  rintro e w6 ⟨x6, m6, q6, L, rfl, ho, hsL, hb6⟩
  have b56 := below_then bx hb6
  have XJ6 := Lib.hid ((B8.new w5 33 (.int .i64 (projCode z)) (.int .i64 J.kind) (.string J.sender) (.string J.goal) (.int .i64 J.shown) (.string J.status) (.int .i64 J.prio) (.slice aj nj cj)).below hb6)
  have XQ6 := Lib.hid (XQ5.out.below b56)
  have XP6 := Lib.hid (XP5.out.below b56)
  have XT6 := Lib.hid (XT5.out.below b56)
  have OT6 := Lib.hid (OT5.out.below b56)
  have OJ6 := Lib.hid (OJ.out.below b56)
  have OL := Lib.hid ho
  have B6 := Lib.hid (below_then B5.out b56)
  have B26 := Lib.hid (below_then B25.out b56)
  have B46 := Lib.hid (below_then B45.out b56)
  clear ho hb6 b56 bx XQ5 XP5 XT5 OT5 OJ B5 B25 B45
  have KI3 := Lib.hid (fun W (h : Below w6.heap.size w6 W) => implPresenceOfPidf_any _ _ x6 m6 q6 L W hsL (OL.out.below h) (HT.out W (below_then B6.out h)) (HP.out W (below_then B6.out h)))
  have KS3 := Lib.hid (fun W (h : Below w6.heap.size w6 W) => specPresenceOfPidf_any _ _ x6 m6 q6 L W hsL (OL.out.below h))
  unfold PrrOwn at KI3 KS3
  have HFR : Hid (pofCode L = 0 → projCode (pofVal L) = 0 ∧ pidfT (pofVal L) = L) := Lib.hid pidf_pof
  have hsr := small_pof L
  generalize pofCode L = rc at *
  generalize pofVal L = rv at *
  go_wp2_with fail
  refine (KI3.out _ (Below.refl _ _)).mono ?_
  rintro e w7 ⟨ar, nr, cr, rfl, hor, hb7⟩
  have b78 := below_then hb7 (below1 w7 (.cells #[.int .i64 rc, .int .i64 rv.kind, .string rv.sender, .string rv.goal, .int .i64 rv.shown, .string rv.status, .int .i64 rv.prio, .slice ar nr cr] 33))
  have XR := Lib.hid (B8.new w7 33 (.int .i64 rc) (.int .i64 rv.kind) (.string rv.sender) (.string rv.goal) (.int .i64 rv.shown) (.string rv.status) (.int .i64 rv.prio) (.slice ar nr cr))
  have XJ := Lib.hid (XJ6.out.below b78)
  have XQ := Lib.hid (XQ6.out.below b78)
  have XP := Lib.hid (XP6.out.below b78)
  have XT := Lib.hid (XT6.out.below b78)
  have OT8 := Lib.hid (OT6.out.below b78)
  have OJ8 := Lib.hid (OJ6.out.below b78)
  have OR8 := Lib.hid (hor.below (below1 w7 (.cells #[.int .i64 rc, .int .i64 rv.kind, .string rv.sender, .string rv.goal, .int .i64 rv.shown, .string rv.status, .int .i64 rv.prio, .slice ar nr cr] 33)))
  have OL8 := Lib.hid (OL.out.below b78)
  have B8' := Lib.hid (below_then B6.out b78)
  have B28 := Lib.hid (below_then B26.out b78)
  have B48 := Lib.hid (below_then B46.out b78)
  have B68 := Lib.hid b78
  clear hor hb7 b78 XJ6 XQ6 XP6 XT6 OT6 OJ6 B6 B26 B46 KI3
  go_wp2_with fail
  generalize w7.alloc (.cells #[.int .i64 rc, .int .i64 rv.kind, .string rv.sender, .string rv.goal, .int .i64 rv.shown, .string rv.status, .int .i64 rv.prio, .slice ar nr cr] 33) = w8 at *
  generalize w2.heap.size = bp at XP ⊢
  generalize w3.heap.size = bt at XT ⊢
  generalize w4.heap.size = bq at XQ ⊢
  generalize w5.heap.size = bj at XJ ⊢
  generalize w7.heap.size = br at XR ⊢
  have lp := XP.out.lt
  have lt' := XT.out.lt
  have lq := XQ.out.lt
  have lj := XJ.out.lt
  have lr := XR.out.lt
  go_cut [41] (fun v wx => v = .bool false ∧ Below w8.heap.size w8 wx)
  case first =>
    have HS : Hid (∀ W, Below w8.heap.size w8 W → (Below w8.heap.size w8 W ∧ W.cell? ⟨bp, 0, none⟩ = some (.int .i64 y.kind) ∧ W.cell? ⟨bp, 1, none⟩ = some (.string y.sender) ∧ W.cell? ⟨bp, 2, none⟩ = some (.string y.goal) ∧ W.cell? ⟨bp, 3, none⟩ = some (.int .i64 y.shown) ∧ W.cell? ⟨bp, 4, none⟩ = some (.string y.status) ∧ W.cell? ⟨bp, 5, none⟩ = some (.int .i64 y.prio) ∧ W.cell? ⟨bp, 6, none⟩ = some (.slice (some xy) my qy) ∧ W.cell? ⟨bt, 0, none⟩ = some (.int .i64 (projCode y)) ∧ W.cell? ⟨bt, 1, none⟩ = some (.slice at' nt ct) ∧ W.cell? ⟨bq, 0, none⟩ = some (.int .i64 z.kind) ∧ W.cell? ⟨bq, 1, none⟩ = some (.string z.sender) ∧ W.cell? ⟨bq, 2, none⟩ = some (.string z.goal) ∧ W.cell? ⟨bq, 3, none⟩ = some (.int .i64 z.shown) ∧ W.cell? ⟨bq, 4, none⟩ = some (.string z.status) ∧ W.cell? ⟨bq, 5, none⟩ = some (.int .i64 z.prio) ∧ W.cell? ⟨bq, 6, none⟩ = some (.slice (some xz) mz qz) ∧ W.cell? ⟨bj, 0, none⟩ = some (.int .i64 (projCode z)) ∧ W.cell? ⟨bj, 1, none⟩ = some (.int .i64 J.kind) ∧ W.cell? ⟨bj, 2, none⟩ = some (.string J.sender) ∧ W.cell? ⟨bj, 3, none⟩ = some (.string J.goal) ∧ W.cell? ⟨bj, 4, none⟩ = some (.int .i64 J.shown) ∧ W.cell? ⟨bj, 5, none⟩ = some (.string J.status) ∧ W.cell? ⟨bj, 6, none⟩ = some (.int .i64 J.prio) ∧ W.cell? ⟨bj, 7, none⟩ = some (.slice aj nj cj) ∧ W.cell? ⟨br, 0, none⟩ = some (.int .i64 rc) ∧ W.cell? ⟨br, 1, none⟩ = some (.int .i64 rv.kind) ∧ W.cell? ⟨br, 2, none⟩ = some (.string rv.sender) ∧ W.cell? ⟨br, 3, none⟩ = some (.string rv.goal) ∧ W.cell? ⟨br, 4, none⟩ = some (.int .i64 rv.shown) ∧ W.cell? ⟨br, 5, none⟩ = some (.string rv.status) ∧ W.cell? ⟨br, 6, none⟩ = some (.int .i64 rv.prio) ∧ W.cell? ⟨br, 7, none⟩ = some (.slice ar nr cr))) := Lib.hid (fun W h => ⟨h, (XP.out.below h).c0, (XP.out.below h).c1, (XP.out.below h).c2, (XP.out.below h).c3, (XP.out.below h).c4, (XP.out.below h).c5, (XP.out.below h).c6, (XT.out.below h).c0, (XT.out.below h).c1, (XQ.out.below h).c0, (XQ.out.below h).c1, (XQ.out.below h).c2, (XQ.out.below h).c3, (XQ.out.below h).c4, (XQ.out.below h).c5, (XQ.out.below h).c6, (XJ.out.below h).c0, (XJ.out.below h).c1, (XJ.out.below h).c2, (XJ.out.below h).c3, (XJ.out.below h).c4, (XJ.out.below h).c5, (XJ.out.below h).c6, (XJ.out.below h).c7, (XR.out.below h).c0, (XR.out.below h).c1, (XR.out.below h).c2, (XR.out.below h).c3, (XR.out.below h).c4, (XR.out.below h).c5, (XR.out.below h).c6, (XR.out.below h).c7⟩)
    have pbp0 := XP.out.c0
    have pbp1 := XP.out.c1
    have pbp2 := XP.out.c2
    have pbp3 := XP.out.c3
    have pbp4 := XP.out.c4
    have pbp5 := XP.out.c5
    have pbp6 := XP.out.c6
    have pbt0 := XT.out.c0
    have pbt1 := XT.out.c1
    have pbq0 := XQ.out.c0
    have pbq1 := XQ.out.c1
    have pbq2 := XQ.out.c2
    have pbq3 := XQ.out.c3
    have pbq4 := XQ.out.c4
    have pbq5 := XQ.out.c5
    have pbq6 := XQ.out.c6
    have pbj0 := XJ.out.c0
    have pbj1 := XJ.out.c1
    have pbj2 := XJ.out.c2
    have pbj3 := XJ.out.c3
    have pbj4 := XJ.out.c4
    have pbj5 := XJ.out.c5
    have pbj6 := XJ.out.c6
    have pbj7 := XJ.out.c7
    have pbr0 := XR.out.c0
    have pbr1 := XR.out.c1
    have pbr2 := XR.out.c2
    have pbr3 := XR.out.c3
    have pbr4 := XR.out.c4
    have pbr5 := XR.out.c5
    have pbr6 := XR.out.c6
    have pbr7 := XR.out.c7
    have hS0 := HS.out w8.drew ((Below.refl w8.heap.size w8).drew)
    (go_region_held3 (fun W => Below w8.heap.size w8 W ∧ W.cell? ⟨bp, 0, none⟩ = some (.int .i64 y.kind) ∧ W.cell? ⟨bp, 1, none⟩ = some (.string y.sender) ∧ W.cell? ⟨bp, 2, none⟩ = some (.string y.goal) ∧ W.cell? ⟨bp, 3, none⟩ = some (.int .i64 y.shown) ∧ W.cell? ⟨bp, 4, none⟩ = some (.string y.status) ∧ W.cell? ⟨bp, 5, none⟩ = some (.int .i64 y.prio) ∧ W.cell? ⟨bp, 6, none⟩ = some (.slice (some xy) my qy) ∧ W.cell? ⟨bt, 0, none⟩ = some (.int .i64 (projCode y)) ∧ W.cell? ⟨bt, 1, none⟩ = some (.slice at' nt ct) ∧ W.cell? ⟨bq, 0, none⟩ = some (.int .i64 z.kind) ∧ W.cell? ⟨bq, 1, none⟩ = some (.string z.sender) ∧ W.cell? ⟨bq, 2, none⟩ = some (.string z.goal) ∧ W.cell? ⟨bq, 3, none⟩ = some (.int .i64 z.shown) ∧ W.cell? ⟨bq, 4, none⟩ = some (.string z.status) ∧ W.cell? ⟨bq, 5, none⟩ = some (.int .i64 z.prio) ∧ W.cell? ⟨bq, 6, none⟩ = some (.slice (some xz) mz qz) ∧ W.cell? ⟨bj, 0, none⟩ = some (.int .i64 (projCode z)) ∧ W.cell? ⟨bj, 1, none⟩ = some (.int .i64 J.kind) ∧ W.cell? ⟨bj, 2, none⟩ = some (.string J.sender) ∧ W.cell? ⟨bj, 3, none⟩ = some (.string J.goal) ∧ W.cell? ⟨bj, 4, none⟩ = some (.int .i64 J.shown) ∧ W.cell? ⟨bj, 5, none⟩ = some (.string J.status) ∧ W.cell? ⟨bj, 6, none⟩ = some (.int .i64 J.prio) ∧ W.cell? ⟨bj, 7, none⟩ = some (.slice aj nj cj) ∧ W.cell? ⟨br, 0, none⟩ = some (.int .i64 rc) ∧ W.cell? ⟨br, 1, none⟩ = some (.int .i64 rv.kind) ∧ W.cell? ⟨br, 2, none⟩ = some (.string rv.sender) ∧ W.cell? ⟨br, 3, none⟩ = some (.string rv.goal) ∧ W.cell? ⟨br, 4, none⟩ = some (.int .i64 rv.shown) ∧ W.cell? ⟨br, 5, none⟩ = some (.string rv.status) ∧ W.cell? ⟨br, 6, none⟩ = some (.int .i64 rv.prio) ∧ W.cell? ⟨br, 7, none⟩ = some (.slice ar nr cr)) (first | assumption | exact HS.out _ (below_then (And.left (by assumption)) hbr))
      (first
        | (go_at_call 36; (with_reducible refine (KS1.out _ (below_then B28.out (And.left (by assumption)))).mono ?_); rintro e wa ⟨a1, n1, c1, rfl, ho1, hbr⟩)
        | (go_at_call 15; (with_reducible refine (lwTree_true (projCode y) _ _ _ _ _ _ (pidfT y) _ ?_ ?_).mono ?_); exact (OT8.out.below (And.left (by assumption))).its; exact ho1.its; rintro e wb ⟨rfl, hbr⟩)
        | (go_at_call 37; (with_reducible refine (KS2.out _ (below_then B48.out (And.left (by assumption)))).mono ?_); rintro e wc ⟨a2, n2, c2, rfl, ho2, hbr⟩)
        | (go_at_call 38; (with_reducible refine (KS3.out _ (below_then B68.out (And.left (by assumption)))).mono ?_); rintro e wd ⟨a3, n3, c3, rfl, ho3, hbr⟩)
        | (go_at_call 17; (with_reducible refine (lwOne_true (projCode z) J _ _ _ _ _ _ _ ?_ ?_).mono ?_); exact (OJ8.out.below (And.left (by assumption))).its; exact ho2.its; rintro e we ⟨rfl, hbr⟩)
        | (go_at_call 17; (with_reducible refine (lwOne_true rc rv _ _ _ _ _ _ _ ?_ ?_).mono ?_); exact (OR8.out.below (And.left (by assumption))).its; exact ho3.its; rintro e wf ⟨rfl, hbr⟩)))
    all_goals (go_wp2_with fail; go_meet; exact ⟨by simp, And.left (by assumption)⟩)
  case rest =>
    obtain ⟨rfl, hbw⟩ := hcut
    obtain ⟨wA, hwA⟩ : ∃ wA, wA = wc := ⟨_, rfl⟩
    subst hwA
    have BA := Lib.hid hbw
    clear hbw KS1 KS2 KS3 KI1 KI2
    go_wp2_with fail
    go_cut [58] (fun v wx => v = .bool false ∧ Below w8.heap.size w8 wx)
    case first =>
      by_cases hz0 : projCode z = 0
      · obtain ⟨f1, f2, f3⟩ := HFJ.out hz0
        rw [hz0] at XJ
        have KF := Lib.hid (fun W (h : Below w8.heap.size w8 W) => implPresenceFault_any J aj nj cj W (HT.out W (below_then B8'.out h)) hsj.size (OJ8.out.below h).its)
        have KJ := Lib.hid (fun W (h : Below w8.heap.size w8 W) => implProjectionOf_any J aj nj cj _ _ W (HT.out W (below_then B8'.out h)) hsj (OJ8.out.below h))
        unfold PrrOwn at KJ
        rw [f1] at KF
        rw [f2, f3] at KJ
        clear f1 f2 f3 hz0
        have HS : Hid (∀ W, Below w8.heap.size w8 W → (Below w8.heap.size w8 W ∧ W.cell? ⟨bj, 0, none⟩ = some (.int .i64 0) ∧ W.cell? ⟨bj, 1, none⟩ = some (.int .i64 J.kind) ∧ W.cell? ⟨bj, 2, none⟩ = some (.string J.sender) ∧ W.cell? ⟨bj, 3, none⟩ = some (.string J.goal) ∧ W.cell? ⟨bj, 4, none⟩ = some (.int .i64 J.shown) ∧ W.cell? ⟨bj, 5, none⟩ = some (.string J.status) ∧ W.cell? ⟨bj, 6, none⟩ = some (.int .i64 J.prio) ∧ W.cell? ⟨bj, 7, none⟩ = some (.slice aj nj cj))) := Lib.hid (fun W h => ⟨h, (XJ.out.below h).c0, (XJ.out.below h).c1, (XJ.out.below h).c2, (XJ.out.below h).c3, (XJ.out.below h).c4, (XJ.out.below h).c5, (XJ.out.below h).c6, (XJ.out.below h).c7⟩)
        have pbj0 := XJ.out.c0
        have pbj1 := XJ.out.c1
        have pbj2 := XJ.out.c2
        have pbj3 := XJ.out.c3
        have pbj4 := XJ.out.c4
        have pbj5 := XJ.out.c5
        have pbj6 := XJ.out.c6
        have pbj7 := XJ.out.c7
        have XA := XJ.out.below BA.out
        have q0 := XA.c0
        have q1 := XA.c1
        have q2 := XA.c2
        have q3 := XA.c3
        have q4 := XA.c4
        have q5 := XA.c5
        have q6 := XA.c6
        have q7 := XA.c7
        have la := XA.lt
        clear XA
        have hS0 := HS.out wA.drew BA.out.drew
        (go_region_held3 (fun W => Below w8.heap.size w8 W ∧ W.cell? ⟨bj, 0, none⟩ = some (.int .i64 0) ∧ W.cell? ⟨bj, 1, none⟩ = some (.int .i64 J.kind) ∧ W.cell? ⟨bj, 2, none⟩ = some (.string J.sender) ∧ W.cell? ⟨bj, 3, none⟩ = some (.string J.goal) ∧ W.cell? ⟨bj, 4, none⟩ = some (.int .i64 J.shown) ∧ W.cell? ⟨bj, 5, none⟩ = some (.string J.status) ∧ W.cell? ⟨bj, 6, none⟩ = some (.int .i64 J.prio) ∧ W.cell? ⟨bj, 7, none⟩ = some (.slice aj nj cj)) (first | assumption | exact HS.out _ (below_then (And.left (by assumption)) hbr))
          (first
            | (go_at_call 27; (with_reducible refine (KF.out _ (And.left (by assumption))).mono ?_); rintro e wa ⟨rfl, hbr⟩)
            | (go_at_call 33; (with_reducible refine (KJ.out _ (And.left (by assumption))).mono ?_); rintro e wb ⟨a2, n2, c2, rfl, ho2, hbr⟩)
            | (go_at_call 17; (with_reducible refine (lwOne_true 0 J _ _ _ _ _ _ _ ?_ ?_).mono ?_); exact ho2.its; exact (OJ8.out.below (And.left (by assumption))).its; rintro e wd ⟨rfl, hbr⟩)))
        all_goals (go_wp2_with fail; go_meet; exact ⟨by simp, And.left (by assumption)⟩)
      · have hz1 : (projCode z == 0) = false := by rw [beq_eq_false_iff_ne]; exact hz0
        have XA := XJ.out.below BA.out
        have q0 := XA.c0
        have la := XA.lt
        clear XA hz0
        go_quiet (fail)
        all_goals (go_wp2_with fail; go_meet; exact ⟨by simp, below_drewN BA.out _⟩)
    case rest =>
      obtain ⟨rfl, hbw⟩ := hcut
      obtain ⟨wB, hwB⟩ : ∃ wB, wB = wc := ⟨_, rfl⟩
      subst hwB
      have BB := Lib.hid hbw
      clear hbw BA
      go_wp2_with fail
      go_cut [76] (fun v wx => v = .bool false ∧ Below w8.heap.size w8 wx)
      case first =>
        by_cases hy0 : projCode y = 0
        · obtain ⟨f1, f2, f3⟩ := pof_pidf hy0
          rw [hy0] at XT
          have hsm := (pidfT_mids y).small
          have KF := Lib.hid (fun W (h : Below w8.heap.size w8 W) => implTreeFault_any at' nt ct (pidfT y) W (HT.out W (below_then B8'.out h)) (OT8.out.below h).its)
          have KJ := Lib.hid (fun W (h : Below w8.heap.size w8 W) => implPresenceOfPidf_any _ _ at' nt ct (pidfT y) W hsm (OT8.out.below h) (HT.out W (below_then B8'.out h)) (HP.out W (below_then B8'.out h)))
          have KQ := Lib.hid (fun W (h : Below w8.heap.size w8 W) => KY.out W (below_then B28.out h))
          unfold PrrOwn at KJ
          rw [f1] at KF
          rw [f2, f3] at KJ
          rw [hy0] at KQ
          clear f1 f2 f3 hy0
          have HS : Hid (∀ W, Below w8.heap.size w8 W → (Below w8.heap.size w8 W ∧ W.cell? ⟨bp, 0, none⟩ = some (.int .i64 y.kind) ∧ W.cell? ⟨bp, 1, none⟩ = some (.string y.sender) ∧ W.cell? ⟨bp, 2, none⟩ = some (.string y.goal) ∧ W.cell? ⟨bp, 3, none⟩ = some (.int .i64 y.shown) ∧ W.cell? ⟨bp, 4, none⟩ = some (.string y.status) ∧ W.cell? ⟨bp, 5, none⟩ = some (.int .i64 y.prio) ∧ W.cell? ⟨bp, 6, none⟩ = some (.slice (some xy) my qy) ∧ W.cell? ⟨bt, 0, none⟩ = some (.int .i64 0) ∧ W.cell? ⟨bt, 1, none⟩ = some (.slice at' nt ct))) := Lib.hid (fun W h => ⟨h, (XP.out.below h).c0, (XP.out.below h).c1, (XP.out.below h).c2, (XP.out.below h).c3, (XP.out.below h).c4, (XP.out.below h).c5, (XP.out.below h).c6, (XT.out.below h).c0, (XT.out.below h).c1⟩)
          have pbp0 := XP.out.c0
          have pbp1 := XP.out.c1
          have pbp2 := XP.out.c2
          have pbp3 := XP.out.c3
          have pbp4 := XP.out.c4
          have pbp5 := XP.out.c5
          have pbp6 := XP.out.c6
          have pbt0 := XT.out.c0
          have pbt1 := XT.out.c1
          have XA := XP.out.below BB.out
          have XC := XT.out.below BB.out
          have q0 := XA.c0
          have q1 := XA.c1
          have q2 := XA.c2
          have q3 := XA.c3
          have q4 := XA.c4
          have q5 := XA.c5
          have q6 := XA.c6
          have q7 := XC.c0
          have q8 := XC.c1
          have la := XA.lt
          have lc := XC.lt
          clear XA XC
          have hS0 := HS.out wB.drew BB.out.drew
          (go_region_held3 (fun W => Below w8.heap.size w8 W ∧ W.cell? ⟨bp, 0, none⟩ = some (.int .i64 y.kind) ∧ W.cell? ⟨bp, 1, none⟩ = some (.string y.sender) ∧ W.cell? ⟨bp, 2, none⟩ = some (.string y.goal) ∧ W.cell? ⟨bp, 3, none⟩ = some (.int .i64 y.shown) ∧ W.cell? ⟨bp, 4, none⟩ = some (.string y.status) ∧ W.cell? ⟨bp, 5, none⟩ = some (.int .i64 y.prio) ∧ W.cell? ⟨bp, 6, none⟩ = some (.slice (some xy) my qy) ∧ W.cell? ⟨bt, 0, none⟩ = some (.int .i64 0) ∧ W.cell? ⟨bt, 1, none⟩ = some (.slice at' nt ct)) (first | assumption | exact HS.out _ (below_then (And.left (by assumption)) hbr))
            (first
              | (go_at_call 29; (with_reducible refine (KF.out _ (And.left (by assumption))).mono ?_); rintro e wa ⟨rfl, hbr⟩)
              | (go_at_call 35; (with_reducible refine (KJ.out _ (And.left (by assumption))).mono ?_); rintro e wb ⟨a2, n2, c2, rfl, ho2, hbr⟩)
              | (go_at_call 33; (with_reducible refine (KQ.out _ (And.left (by assumption))).mono ?_); rintro e we ⟨a3, n3, c3, rfl, ho3, hbr⟩)
              | (go_at_call 17; (with_reducible refine (lwOne_true 0 (projT y) _ _ _ _ _ _ _ ?_ ?_).mono ?_); exact (ho2.below hbr).its; exact ho3.its; rintro e wd ⟨rfl, hbr⟩)))
          all_goals (go_wp2_with fail; go_meet; exact ⟨by simp, And.left (by assumption)⟩)
        · have hy1 : (projCode y == 0) = false := by rw [beq_eq_false_iff_ne]; exact hy0
          have XC := XT.out.below BB.out
          have q0 := XC.c0
          have lc := XC.lt
          clear XC hy0
          go_quiet (fail)
          all_goals (go_wp2_with fail; go_meet; exact ⟨by simp, below_drewN BB.out _⟩)
      case rest =>
        obtain ⟨rfl, hbw⟩ := hcut
        obtain ⟨wD, hwD⟩ : ∃ wD, wD = wc := ⟨_, rfl⟩
        subst hwD
        have BD := Lib.hid hbw
        clear hbw BB
        have XA := XR.out.below BD.out
        have q0 := XA.c0
        have q1 := XA.c1
        have q2 := XA.c2
        have q3 := XA.c3
        have q4 := XA.c4
        have q5 := XA.c5
        have q6 := XA.c6
        have q7 := XA.c7
        have la := XA.lt
        clear XA
        by_cases hr0 : rc = 0
        · have hr1 : (rc != 0) = false := by rw [bne_eq_false_iff_eq]; exact hr0
          obtain ⟨f1, f2⟩ := HFR.out hr0
          have KR := implPidfOf_any rv ar nr cr _ _ wD (HT.out wD (below_then B8'.out BD.out)) (HP.out wD (below_then B8'.out BD.out)) hsr (OR8.out.below BD.out)
          unfold TreeOwn at KR
          rw [f1, f2] at KR
          clear f1 f2 hr0
          go_wp2_with fail
          refine KR.mono ?_
          clear KR
          rintro e wE ⟨a9, n9, c9, rfl, ho9, hb9⟩
          have O9 := Lib.hid ho9
          have B9 := Lib.hid (below_then BD.out hb9)
          clear ho9 hb9
          go_wp2_with fail
          refine (lwTree_true 0 _ _ _ _ _ _ L _ O9.out.its (OL8.out.below B9.out).its).mono ?_
          rintro e wF ⟨rfl, hbF⟩
          have BF := Lib.hid (below_then B8'.out (below_then B9.out hbF))
          clear hbF
          go_wp2
          go_ret
          exact ⟨rfl, BF.out⟩
        · have hr1 : (rc != 0) = true := by rw [bne_iff_ne]; exact hr0
          have BF := Lib.hid (below_then B8'.out BD.out)
          go_wp2
          go_ret
          exact ⟨rfl, BF.out⟩
theorem fnPidfs_walk (a : Option Addr) (n c : Nat) (xs : List Int) (w : World) (h : InRow w a n c xs) (hT : Tabs w) (hPw : Pows w) :
    Calls Tryz.prog 4 #[.slice a n c] w fun e w' => e = .returned (.bool true) ∧ Below w.heap.size w w' := by
  by_cases hs2 : n ≤ 1048576
  · exact fnPidfs_walk0 a n c xs w ⟨h.len, hs2, h.byte, h.row⟩ hT hPw
  · have hbig : decide (1048576 < n) = true := by simp; omega
    have hm := h.max
    unfold maxLen at hm
    go_enter Tryz.func4, Tryz.ntmps4
    go_wp2_with fail
    refine (lwBig_any a n c (by omega) _).mono ?_
    rintro e w1 ⟨rfl, rfl⟩
    rw [hbig]
    go_wp2
    go_ret
    exact ⟨rfl, Below.refl _ _⟩
end Go.Proofs.YtcaknhoaoodbfaaGreatDoor
