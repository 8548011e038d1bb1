/- impl.PresenceOfPidf. -/
import Derived.Test.YticpebpicdboaaaGreatDoorGY38
import Derived.Test.YticpebpicdboaaaGreatDoorGY35
import Derived.Test.YticpebpicdboaaaGreatDoorGY43
import Derived.Test.YticpebpicdboaaaGreatDoorGY37
import Derived.Test.YticpebpicdboaaaGreatDoorGY0
import Derived.Deep.RegionHeld3
namespace Go.Proofs.YticpebpicdboaaaGreatDoor
open Go.ChangeShapes Go.WideShapes Go.ChangeAt Go.RowKit
set_option linter.unusedVariables false
set_option linter.unusedSimpArgs false

theorem fieldR_pres (cd k s u : Int) (f t v : ByteArray) (a : Option Addr) (n q : Nat) (W : World) : (Instr.field 33 (.agg #[.int .i64 cd, .int .i64 k, .string f, .string t, .int .i64 s, .string v, .int .i64 u, .slice a n q]) 1).run Tryz.prog W = .ok (.agg #[.int .i64 k, .string f, .string t, .int .i64 s, .string v, .int .i64 u, .slice a n q]) W := by kernel_rfl
theorem fieldR_items (c : Int) (a : Option Addr) (n q : Nat) (W : World) : (Instr.field 29 (.agg #[.int .i64 c, .slice a n q]) 1).run Tryz.prog W = .ok (.slice a n q) W := by kernel_rfl
theorem projT_smallPr {p : Pr} (h : SmallPr p) : SmallPr (projT p) := by
  have h1 := h.texts
  unfold projT
  split
  · refine ⟨⟨?_, ?_, ?_⟩, ⟨(by show (0 : Nat) ≤ _; exact Nat.zero_le _), fun i hi => ?_⟩⟩
    · exact h1.1
    · show ByteArray.empty.size ≤ _
      exact Nat.zero_le _
    · exact h1.2.2
    · exact absurd hi (by show ¬ (i < 0); omega)
  · exact ⟨⟨Nat.zero_le _, Nat.zero_le _, Nat.zero_le _⟩, ⟨(by show (0 : Nat) ≤ _; exact Nat.zero_le _), fun i hi => absurd hi (by show ¬ (i < 0); omega)⟩⟩

set_option maxRecDepth 100000 in
set_option maxHeartbeats 6400000 in
theorem implPresenceOfPidf_any (lo hi : Nat) (a : Option Addr) (n c : Nat) (l : List It) (w : World) (hs : SmallIts l) (h : OwnIts w lo hi a n c l) (hT : Tabs w) (hPw : Pows w) :
    Calls Tryz.prog 38 #[.slice a n c] w (PrrOwn w (pofCode l) (pofVal l)) := by
  have hits := h.its
  have KT := Lib.hid (fun W (hb : Below w.heap.size w W) => implTreeFault_any a n c l W (tabs_kept hT hb) (hits.below hb))
  have HB0 := Lib.hid (fun o => below1 w o)
  by_cases hc : treeCode l = 0
  case neg =>
    obtain ⟨e1, e2⟩ := pof_bad hc
    rw [e1, e2]
    generalize treeCode l = cd at hc KT ⊢
    have h0b : (cd != 0) = true := by rw [bne_iff_ne]; exact hc
    clear e1 e2 h hs hits hT hPw
    go_enter Tryz.func38, Tryz.ntmps38
    go_wp2_with fail
    refine (KT.out _ (HB0.out _)).mono ?_
    rintro e w1 ⟨rfl, hb1⟩
    obtain ⟨hc1, hf1⟩ := bcell hb1
    have HB1 := Lib.hid hb1
    clear hb1
    go_wp2
    exact bodyPost_ret (v := .agg #[.int .i64 cd, .int .i64 0, .string ⟨#[]⟩, .string ⟨#[]⟩, .int .i64 0, .string ⟨#[]⟩, .int .i64 0, .slice none 0 0]) (by simp [results, Tryz.results38, go_sem, hc1]) rfl (prr_code _ _ _ (below8 (below_then (HB0.out _) HB1.out) (Nat.le_refl _) _ _ _ _ _ _ _ _))
  have hn1 : 0 < n := by have h1 := (rises_of hc).some; have h2 := h.len; omega
  obtain ⟨b1, o1, rfl, hat⟩ := hits.row.resolve_left (by omega)
  have KG := Lib.hid (fun W (hb : Below w.heap.size w W) => toldIn_any b1 o1 n c l W (tabs_kept hT hb) (hPw.below hb) hc (hits.below hb))
  have hgo := guessP_ok hc
  have hsm := hgo.small
  have hmr : (guessP l).more = [] := hgo.2.2
  have KJ := Lib.hid (fun W (hb : Below w.heap.size w W) => implProjectionOf_any (guessP l) none 0 0 0 0 W (tabs_kept hT hb) hsm (by rw [hmr]; exact OwnIts.nil W 0 0))
  have hsq := projT_smallPr hsm
  obtain ⟨hs1, hs2⟩ := told_same hc
  have hno := pof_no hc
  have hyes := pof_yes hc
  rw [hc] at KT
  generalize projCode (guessP l) = jc at KJ
  generalize projT (guessP l) = q at KJ hsq hs1 hs2
  generalize guessP l = g at KG KJ
  have KQ := Lib.hid (fun a n c lo hi W (hb : Below w.heap.size w W) h => implPidfOf_any q a n c lo hi W (tabs_kept hT hb) (hPw.below hb) hsq h)
  have KS := Lib.hid (fun W a' n' c' (bb : Bool) (hbb : bb = true ↔ pidfT q = l) (h1 : ItsAt W a' n' c' (pidfT q)) (hb : Below w.heap.size w W) => implSameTrees_any a' (some ⟨b1, o1, none⟩) n' n c' c (pidfT q) l W bb hbb h1 (hits.below hb))
  have HNO : Hid (pidfT q ≠ l → pofCode l = 1 ∧ pofVal l = dPr) := Lib.hid fun h => hno fun h2 => h (hs1.2 h2)
  have HYES : Hid (pidfT q = l → pofCode l = 0 ∧ pofVal l = q) := Lib.hid fun h => by
    have h2 := hyes (hs1.1 h)
    rw [hs2 (hs1.1 h)]
    exact h2
  generalize pofCode l = pc at HNO HYES ⊢
  generalize pofVal l = pv at HNO HYES ⊢
  unfold GuessRes at KG
  unfold PrrOwn at KJ
  unfold TreeOwn at KQ
  clear h hs hits hT hPw hgo hsm hmr hsq hs1 hs2 hno hyes hc hat hn1
  generalize pidfT q = t at KQ KS HNO HYES
  obtain ⟨gk, gf, gt, gs, gu, gp, gm⟩ := g
  obtain ⟨qk, qf, qt, qs, qu, qp, qm⟩ := q
  dsimp only at KG KJ KQ
  generalize projCode ⟨qk, qf, qt, qs, qu, qp, qm⟩ = tc at KQ
  have fq := fun cd a n c W => fieldR_pres cd qk qs qp qf qt qu a n c W
  have fi := fun c a n q W => fieldR_items c a n q W
  by_cases he : t = l
  · obtain ⟨rfl, rfl⟩ := HYES.out he
    have KS2 := Lib.hid (fun W a' n' c' h1 hb => KS.out W a' n' c' true ⟨fun _ => he, fun _ => rfl⟩ h1 hb)
    clear HNO HYES he KS
    go_enter Tryz.func38, Tryz.ntmps38
    go_wp2_with fail
    refine (KT.out _ (HB0.out _)).mono ?_
    rintro e w1 ⟨rfl, hb1⟩
    have HB1 := Lib.hid (below_then (HB0.out _) hb1)
    have HA1 := Lib.hid hb1
    clear hb1
    go_wp2_with fail
    refine (KG.out _ HB1.out).mono ?_
    rintro e w2 ⟨rfl, hb2⟩
    have HB2 := Lib.hid (below_then HB1.out hb2)
    have HA2 := Lib.hid (below_then HA1.out hb2)
    clear hb2
    go_wp2_with fail
    refine (KJ.out _ HB2.out).mono ?_
    rintro e w3 ⟨a3, n3, c3, rfl, ho3, hb3⟩
    have hbx := below_then hb3 (below1 w3 (.cells #[.int .i64 qk, .string qf, .string qt, .int .i64 qs, .string qu, .int .i64 qp, .slice a3 n3 c3] 26))
    have HB3 := Lib.hid (below_then HB2.out hbx)
    have HA3 := Lib.hid (below_then HA2.out hbx)
    have HO3 := Lib.hid (ho3.below (below1 w3 (.cells #[.int .i64 qk, .string qf, .string qt, .int .i64 qs, .string qu, .int .i64 qp, .slice a3 n3 c3] 26)))
    have HP3 := Lib.hid (PrAt.new w3 26 ⟨qk, qf, qt, qs, qu, qp, qm⟩ a3 n3 c3)
    clear hbx
    clear hb3 ho3
    go_wp2_with fail
    refine (KQ.out _ _ _ _ _ _ HB3.out HO3.out).mono ?_
    rintro e w4 ⟨a4, n4, c4, rfl, ho4, hb4⟩
    have HB4 := Lib.hid (below_then HB3.out hb4)
    have HA4 := Lib.hid (below_then HA3.out hb4)
    have HO4 := Lib.hid ho4
    have HN4 := Lib.hid hb4
    clear hb4 ho4
    go_wp2_with fail
    refine (KS2.out _ _ _ _ HO4.out.its HB4.out).mono ?_
    rintro e w5 ⟨rfl, hb5⟩
    have hb9 := below_then HA4.out hb5
    obtain ⟨hc1, hf1⟩ := bcell hb9
    have HB9 := Lib.hid (below_then (HB0.out _) hb9)
    have OW3 := Lib.hid ((HO3.out.below HN4.out).below hb5)
    have HZ2 := Lib.hid HB2.out.size
    have HZ : Hid (w.heap.size + 1 ≤ w2.heap.size ∧ w3.heap.size ≤ w5.heap.size) := Lib.hid ⟨by have := HA2.out.size; simpa using this, by have h1 := HN4.out.size; have h2 := hb5.size; simp at h1; omega⟩
    have P5 := (HP3.out.below HN4.out).below hb5
    have y0 := P5.c0
    have y1 := P5.c1
    have y2 := P5.c2
    have y3 := P5.c3
    have y4 := P5.c4
    have y5 := P5.c5
    have y6 := P5.c6
    dsimp only at y0 y1 y2 y3 y4 y5 y6
    clear P5
    clear hb9 hb5
    go_wp2
    refine bodyPost_ret (v := .agg #[.int .i64 0, .int .i64 qk, .string qf, .string qt, .int .i64 qs, .string qu, .int .i64 qp, .slice a3 n3 c3]) (by simp [results, Tryz.results38, go_sem, hc1]) rfl ?_
    exact ⟨_, _, _, rfl, (own8 OW3.out (by have := HZ.out; omega) _ _ _ _ _ _ _ _).mono (by have := HZ.out; omega) (by have := HZ.out; simp; omega), below8 HB9.out (Nat.le_refl _) _ _ _ _ _ _ _ _⟩
  · obtain ⟨rfl, rfl⟩ := HNO.out he
    have KS2 := Lib.hid (fun W a' n' c' h1 hb => KS.out W a' n' c' false ⟨fun h => (by cases h), fun h => absurd h he⟩ h1 hb)
    clear HNO HYES he KS
    go_enter Tryz.func38, Tryz.ntmps38
    go_wp2_with fail
    refine (KT.out _ (HB0.out _)).mono ?_
    rintro e w1 ⟨rfl, hb1⟩
    have HB1 := Lib.hid (below_then (HB0.out _) hb1)
    have HA1 := Lib.hid hb1
    clear hb1
    go_wp2_with fail
    refine (KG.out _ HB1.out).mono ?_
    rintro e w2 ⟨rfl, hb2⟩
    have HB2 := Lib.hid (below_then HB1.out hb2)
    have HA2 := Lib.hid (below_then HA1.out hb2)
    clear hb2
    go_wp2_with fail
    refine (KJ.out _ HB2.out).mono ?_
    rintro e w3 ⟨a3, n3, c3, rfl, ho3, hb3⟩
    have hbx := below_then hb3 (below1 w3 (.cells #[.int .i64 qk, .string qf, .string qt, .int .i64 qs, .string qu, .int .i64 qp, .slice a3 n3 c3] 26))
    have HB3 := Lib.hid (below_then HB2.out hbx)
    have HA3 := Lib.hid (below_then HA2.out hbx)
    have HO3 := Lib.hid (ho3.below (below1 w3 (.cells #[.int .i64 qk, .string qf, .string qt, .int .i64 qs, .string qu, .int .i64 qp, .slice a3 n3 c3] 26)))
    have HP3 := Lib.hid (PrAt.new w3 26 ⟨qk, qf, qt, qs, qu, qp, qm⟩ a3 n3 c3)
    clear hbx
    clear hb3 ho3
    go_wp2_with fail
    refine (KQ.out _ _ _ _ _ _ HB3.out HO3.out).mono ?_
    rintro e w4 ⟨a4, n4, c4, rfl, ho4, hb4⟩
    have HB4 := Lib.hid (below_then HB3.out hb4)
    have HA4 := Lib.hid (below_then HA3.out hb4)
    have HO4 := Lib.hid ho4
    clear hb4 ho4
    go_wp2_with fail
    refine (KS2.out _ _ _ _ HO4.out.its HB4.out).mono ?_
    rintro e w5 ⟨rfl, hb5⟩
    have hb9 := below_then HA4.out hb5
    obtain ⟨hc1, hf1⟩ := bcell hb9
    have HB9 := Lib.hid (below_then (HB0.out _) hb9)
    clear hb9 hb5
    go_wp2
    exact bodyPost_ret (v := .agg #[.int .i64 1, .int .i64 0, .string ⟨#[]⟩, .string ⟨#[]⟩, .int .i64 0, .string ⟨#[]⟩, .int .i64 0, .slice none 0 0]) (by simp [results, Tryz.results38, go_sem, hc1]) rfl (prr_code _ _ _ (below8 HB9.out (Nat.le_refl _) _ _ _ _ _ _ _ _))
end Go.Proofs.YticpebpicdboaaaGreatDoor

/- eqAttr, eqAttrS, eqItem, eqItemS at two readings of one list. -/
namespace Go.Proofs.YticpebpicdboaaaGreatDoor
open Go.ChangeShapes Go.WideShapes Go.ChangeAt Go.RowKit
set_option linter.unusedVariables false

set_option maxHeartbeats 400000 in
theorem eqAttr_true (s t : ByteArray) (w : World) :
    Calls Tryz.prog 279 #[.agg #[.string s, .string t], .agg #[.string s, .string t]] w fun e w' => e = .returned (.bool true) ∧ Below w.heap.size w w' := by
  go_enter Tryz.func279, Tryz.ntmps279
  go_wp2
  go_ret
  exact ⟨rfl, below2 _ _ _⟩

theorem held4 {w0 W W' : World} {p1 p2 p3 p4 : Addr} {v1 v2 v3 v4 : Value} (hb : Below W.heap.size W W')
    (h : Below w0.heap.size w0 W ∧ W.cell? p1 = some v1 ∧ W.cell? p2 = some v2 ∧ W.cell? p3 = some v3 ∧ W.cell? p4 = some v4) :
    Below w0.heap.size w0 W' ∧ W'.cell? p1 = some v1 ∧ W'.cell? p2 = some v2 ∧ W'.cell? p3 = some v3 ∧ W'.cell? p4 = some v4 :=
  ⟨below_then h.1 hb, (hb.cell (World.block_lt_of_cell? W _ h.2.1)).trans h.2.1, (hb.cell (World.block_lt_of_cell? W _ h.2.2.1)).trans h.2.2.1, (hb.cell (World.block_lt_of_cell? W _ h.2.2.2.1)).trans h.2.2.2.1, (hb.cell (World.block_lt_of_cell? W _ h.2.2.2.2)).trans h.2.2.2.2⟩

set_option maxHeartbeats 1600000 in
theorem eqAttrS_true (a a' : Option Addr) (n n' c c' : Nat) (l : List At) (w : World) (h : AtsAt w a n c l) (h' : AtsAt w a' n' c' l) :
    Calls Tryz.prog 221 #[.slice a n c, .slice a' n' c'] w fun e w' => e = .returned (.bool true) ∧ Below w.heap.size w w' := by
  obtain rfl : n = n' := h.len.symm.trans h'.len
  have hm := h.max
  have HR := Lib.hid h.row
  have HR' := Lib.hid h'.row
  clear h h'
  go_enter Tryz.func221, Tryz.ntmps221
  go_wp2
  go_loopw [5] (fun i wr => ∃ k : Nat, k ≤ n ∧ i = .int .i64 k ∧ Below w.heap.size w wr) (fun i _ => n - (intOf i).toNat)
  case atStart => exact ⟨0, Nat.zero_le _, rfl, Below.refl _ _⟩
  case round =>
    obtain ⟨k, hk, rfl, hb⟩ := hrel
    by_cases hlt : k < n
    · rcases HR.out with e0 | ⟨b, o, rfl, h3, h4⟩
      · omega
      rcases HR'.out with e0 | ⟨b', o', rfl, h3', h4'⟩
      · omega
      have d0 := (hb.cell (p := ⟨b, o + k * 2, none⟩) h3).trans (h4 k hlt).1
      have d1 := (hb.cell (p := ⟨b, o + k * 2 + 1, none⟩) h3).trans (h4 k hlt).2
      have e0 := (hb.cell (p := ⟨b', o' + k * 2, none⟩) h3').trans (h4' k hlt).1
      have e1 := (hb.cell (p := ⟨b', o' + k * 2 + 1, none⟩) h3').trans (h4' k hlt).2
      have k1 : (k : Int) < (n : Int) := by omega
      generalize l.getD k dAt = x at d0 d1 e0 e1
      obtain ⟨s, t⟩ := x
      dsimp only at d0 d1 e0 e1
      have HB := Lib.hid hb
      clear h4 h4' hb
      go_wp2_with fail
      have hS0 : Below wr.heap.size wr wr.drew ∧ wr.drew.cell? ⟨b, o + k * 2, none⟩ = some (.string s) ∧ wr.drew.cell? ⟨b, o + k * 2 + 1, none⟩ = some (.string t) ∧ wr.drew.cell? ⟨b', o' + k * 2, none⟩ = some (.string s) ∧ wr.drew.cell? ⟨b', o' + k * 2 + 1, none⟩ = some (.string t) := ⟨(Below.refl _ _).drew, d0, d1, e0, e1⟩
      go_region_held3 (fun W => Below wr.heap.size wr W ∧ W.cell? ⟨b, o + k * 2, none⟩ = some (.string s) ∧ W.cell? ⟨b, o + k * 2 + 1, none⟩ = some (.string t) ∧ W.cell? ⟨b', o' + k * 2, none⟩ = some (.string s) ∧ W.cell? ⟨b', o' + k * 2 + 1, none⟩ = some (.string t)) (first | assumption | exact held4 hbr (by assumption))
        (first | (go_at_call 279; refine (eqAttr_true s t _).mono ?_; rintro e w' ⟨rfl, hbr⟩))
      go_wp2
      go_roundw
      case rel => exact ⟨k + 1, by omega, by go_num, below_then HB.out (below_of_drew hbr)⟩
      case measure => simp [intOf]; omega
    · go_wp2
      go_ret
      exact ⟨rfl, hb⟩

set_option maxHeartbeats 800000 in
theorem eqItem_true (x : It) (a a' : Option Addr) (n n' c c' : Nat) (w : World) (h : AtsAt w a n c x.attrs) (h' : AtsAt w a' n' c' x.attrs) :
    Calls Tryz.prog 131 #[.agg #[.int .i64 x.depth, .string x.text, .string x.space, .string x.name, .slice a n c], .agg #[.int .i64 x.depth, .string x.text, .string x.space, .string x.name, .slice a' n' c']] w fun e w' => e = .returned (.bool true) ∧ Below w.heap.size w w' := by
  obtain ⟨d, s, t, u, l⟩ := x
  dsimp only at h h' ⊢
  have K := Lib.hid (fun W (hb : Below w.heap.size w W) => eqAttrS_true a a' n n' c c' l W (h.below hb) (h'.below hb))
  clear h h'
  go_enter Tryz.func131, Tryz.ntmps131
  go_wp2_with fail
  refine (K.out _ (below2 _ _ _)).mono ?_
  rintro e w1 ⟨rfl, hb⟩
  go_wp2
  go_ret
  exact ⟨rfl, below_then (below2 _ _ _) hb⟩

theorem held10 {w0 W W' : World} {p0 p1 p2 p3 p4 p5 p6 p7 p8 p9 : Addr} {v0 v1 v2 v3 v4 v5 v6 v7 v8 v9 : Value} (hb : Below W.heap.size W W')
    (h : Below w0.heap.size w0 W ∧ W.cell? p0 = some v0 ∧ W.cell? p1 = some v1 ∧ W.cell? p2 = some v2 ∧ W.cell? p3 = some v3 ∧ W.cell? p4 = some v4 ∧ W.cell? p5 = some v5 ∧ W.cell? p6 = some v6 ∧ W.cell? p7 = some v7 ∧ W.cell? p8 = some v8 ∧ W.cell? p9 = some v9) :
    Below w0.heap.size w0 W' ∧ W'.cell? p0 = some v0 ∧ W'.cell? p1 = some v1 ∧ W'.cell? p2 = some v2 ∧ W'.cell? p3 = some v3 ∧ W'.cell? p4 = some v4 ∧ W'.cell? p5 = some v5 ∧ W'.cell? p6 = some v6 ∧ W'.cell? p7 = some v7 ∧ W'.cell? p8 = some v8 ∧ W'.cell? p9 = some v9 :=
  ⟨below_then h.1 hb, (hb.cell (World.block_lt_of_cell? W _ h.2.1)).trans h.2.1, (hb.cell (World.block_lt_of_cell? W _ h.2.2.1)).trans h.2.2.1, (hb.cell (World.block_lt_of_cell? W _ h.2.2.2.1)).trans h.2.2.2.1, (hb.cell (World.block_lt_of_cell? W _ h.2.2.2.2.1)).trans h.2.2.2.2.1, (hb.cell (World.block_lt_of_cell? W _ h.2.2.2.2.2.1)).trans h.2.2.2.2.2.1, (hb.cell (World.block_lt_of_cell? W _ h.2.2.2.2.2.2.1)).trans h.2.2.2.2.2.2.1, (hb.cell (World.block_lt_of_cell? W _ h.2.2.2.2.2.2.2.1)).trans h.2.2.2.2.2.2.2.1, (hb.cell (World.block_lt_of_cell? W _ h.2.2.2.2.2.2.2.2.1)).trans h.2.2.2.2.2.2.2.2.1, (hb.cell (World.block_lt_of_cell? W _ h.2.2.2.2.2.2.2.2.2.1)).trans h.2.2.2.2.2.2.2.2.2.1, (hb.cell (World.block_lt_of_cell? W _ h.2.2.2.2.2.2.2.2.2.2)).trans h.2.2.2.2.2.2.2.2.2.2⟩

set_option maxRecDepth 100000 in
set_option maxHeartbeats 3200000 in
theorem eqItemS_true (a a' : Option Addr) (n n' c c' : Nat) (l : List It) (w : World) (h : ItsAt w a n c l) (h' : ItsAt w a' n' c' l) :
    Calls Tryz.prog 61 #[.slice a n c, .slice a' n' c'] w fun e w' => e = .returned (.bool true) ∧ Below w.heap.size w w' := by
  obtain rfl : n = n' := h.len.symm.trans h'.len
  have hm := h.max
  have HR := Lib.hid h.row
  have HR' := Lib.hid h'.row
  clear h h'
  go_enter Tryz.func61, Tryz.ntmps61
  go_wp2
  go_loopw [5] (fun i wr => ∃ k : Nat, k ≤ n ∧ i = .int .i64 k ∧ Below w.heap.size w wr) (fun i _ => n - (intOf i).toNat)
  case atStart => exact ⟨0, Nat.zero_le _, rfl, Below.refl _ _⟩
  case round =>
    obtain ⟨k, hk, rfl, hb⟩ := hrel
    by_cases hlt : k < n
    · rcases HR.out with e0 | ⟨b, o, rfl, h4⟩
      · omega
      rcases HR'.out with e0 | ⟨b', o', rfl, h4'⟩
      · omega
      have hi := (h4 k hlt).below hb
      have hi' := (h4' k hlt).below hb
      have d0 := hi.c0
      have d1 := hi.c1
      have d2 := hi.c2
      have d3 := hi.c3
      obtain ⟨a4, n4, c4, d4, hat⟩ := hi.c4
      have e0 := hi'.c0
      have e1 := hi'.c1
      have e2 := hi'.c2
      have e3 := hi'.c3
      obtain ⟨a5, n5, c5, e4, hat'⟩ := hi'.c4
      have K := Lib.hid (fun W (hb' : Below wr.heap.size wr W) => eqItem_true (l.getD k dIt) a4 a5 n4 n5 c4 c5 W (hat.below hb') (hat'.below hb'))
      have k1 : (k : Int) < (n : Int) := by omega
      clear hi hi' hat hat' h4 h4'
      generalize l.getD k dIt = x at d0 d1 d2 d3 e0 e1 e2 e3 K
      obtain ⟨xd, xt, xs, xn, xa⟩ := x
      dsimp only at d0 d1 d2 d3 e0 e1 e2 e3 K
      have HB := Lib.hid hb
      clear hb
      go_wp2_with fail
      have hS0 : Below wr.heap.size wr wr.drew ∧ wr.drew.cell? ⟨b, o + k * 5, none⟩ = some (.int .i64 xd) ∧ wr.drew.cell? ⟨b, o + k * 5 + 1, none⟩ = some (.string xt) ∧ wr.drew.cell? ⟨b, o + k * 5 + 2, none⟩ = some (.string xs) ∧ wr.drew.cell? ⟨b, o + k * 5 + 3, none⟩ = some (.string xn) ∧ wr.drew.cell? ⟨b, o + k * 5 + 4, none⟩ = some (.slice a4 n4 c4) ∧ wr.drew.cell? ⟨b', o' + k * 5, none⟩ = some (.int .i64 xd) ∧ wr.drew.cell? ⟨b', o' + k * 5 + 1, none⟩ = some (.string xt) ∧ wr.drew.cell? ⟨b', o' + k * 5 + 2, none⟩ = some (.string xs) ∧ wr.drew.cell? ⟨b', o' + k * 5 + 3, none⟩ = some (.string xn) ∧ wr.drew.cell? ⟨b', o' + k * 5 + 4, none⟩ = some (.slice a5 n5 c5) := ⟨(Below.refl _ _).drew, d0, d1, d2, d3, d4, e0, e1, e2, e3, e4⟩
      go_region_held3 (fun W => Below wr.heap.size wr W ∧ W.cell? ⟨b, o + k * 5, none⟩ = some (.int .i64 xd) ∧ W.cell? ⟨b, o + k * 5 + 1, none⟩ = some (.string xt) ∧ W.cell? ⟨b, o + k * 5 + 2, none⟩ = some (.string xs) ∧ W.cell? ⟨b, o + k * 5 + 3, none⟩ = some (.string xn) ∧ W.cell? ⟨b, o + k * 5 + 4, none⟩ = some (.slice a4 n4 c4) ∧ W.cell? ⟨b', o' + k * 5, none⟩ = some (.int .i64 xd) ∧ W.cell? ⟨b', o' + k * 5 + 1, none⟩ = some (.string xt) ∧ W.cell? ⟨b', o' + k * 5 + 2, none⟩ = some (.string xs) ∧ W.cell? ⟨b', o' + k * 5 + 3, none⟩ = some (.string xn) ∧ W.cell? ⟨b', o' + k * 5 + 4, none⟩ = some (.slice a5 n5 c5)) (first | assumption | exact held10 hbr (by assumption))
        (first | (go_at_call 131; refine (K.out _ ?_).mono ?_; exact (And.left (by assumption)); rintro e w' ⟨rfl, hbr⟩))
      go_wp2
      go_roundw
      case rel => exact ⟨k + 1, by omega, by go_num, below_then HB.out (below_of_drew hbr)⟩
      case measure => simp [intOf]; omega
    · go_wp2
      go_ret
      exact ⟨rfl, hb⟩
end Go.Proofs.YticpebpicdboaaaGreatDoor

/- eqPresence at two readings of one presence. -/
namespace Go.Proofs.YticpebpicdboaaaGreatDoor
open Go.ChangeShapes Go.WideShapes Go.ChangeAt Go.RowKit
set_option linter.unusedVariables false

set_option maxRecDepth 100000 in
set_option maxHeartbeats 1600000 in
theorem eqPresence_true (p : Pr) (a a' : Option Addr) (n n' c c' : Nat) (w : World) (h : ItsAt w a n c p.more) (h' : ItsAt w a' n' c' p.more) :
    Calls Tryz.prog 130 #[.agg #[.int .i64 p.kind, .string p.sender, .string p.goal, .int .i64 p.shown, .string p.status, .int .i64 p.prio, .slice a n c], .agg #[.int .i64 p.kind, .string p.sender, .string p.goal, .int .i64 p.shown, .string p.status, .int .i64 p.prio, .slice a' n' c']] w fun e w' => e = .returned (.bool true) ∧ Below w.heap.size w w' := by
  obtain ⟨pk, pf, pt, ps, pu, pp, pm⟩ := p
  dsimp only at h h' ⊢
  have K := Lib.hid (fun W (hb : Below w.heap.size w W) => eqItemS_true a a' n n' c c' pm W (h.below hb) (h'.below hb))
  clear h h'
  go_enter Tryz.func130, Tryz.ntmps130
  go_wp2_with fail
  refine (K.out _ (below2 _ _ _)).mono ?_
  rintro e w1 ⟨rfl, hb⟩
  go_wp2
  go_ret
  exact ⟨rfl, below_then (below2 _ _ _) hb⟩
end Go.Proofs.YticpebpicdboaaaGreatDoor
