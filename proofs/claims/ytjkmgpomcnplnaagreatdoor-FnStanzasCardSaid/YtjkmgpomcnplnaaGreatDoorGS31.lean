/- impl.TreeOf. -/
import Derived.Test.YtjkmgpomcnplnaaGreatDoorGS17
namespace Go.Proofs.YtjkmgpomcnplnaaGreatDoor
open Go.ChangeShapes Go.WideShapes Go.ChangeAt Go.RowKit
set_option linter.unusedVariables false
set_option maxRecDepth 100000 in
set_option maxHeartbeats 6400000 in
theorem implTreeOf_any (p : Pr) (a : Option Addr) (n c lo hi : Nat) (w : World) (hT : Tabs w) (hP : Pows w) (hsm : SmallPr p) (h : OwnIts w lo hi a n c p.more) :
    Calls Tryz.prog 6 #[.agg #[.int .i64 p.kind, .string p.sender, .string p.goal, .int .i64 p.shown, .string p.status, .int .i64 p.prio, .slice a n c]] w (TreeOwn w (presCode p) (treeT p)) := by
  have hsz : PrSize p := ⟨by have := hsm.texts; omega, by have := hsm.texts; omega, by have := hsm.texts; omega⟩
  have K0 := Lib.hid (fun W (hb : Below w.heap.size w W) => implPresenceFault_any p a n c W (tabs_kept hT hb) hsz (h.its.below hb))
  have HP := Lib.hid (fun W (hb : Below w.heap.size w W) => hP.below hb)
  have H := Lib.hid (fun W (hb : Below w.heap.size w W) => h.below hb)
  have P0 := Lib.hid ((PrAt.new w 26 p a n c).below (below1 _ (.cells #[.int .i64 0, .slice none 0 0] 29)))
  have HLN := Lib.hid h.len
  have HMX := Lib.hid h.max
  unfold treeT TreeOwn
  clear hT hP hsz h
  by_cases hcd : presCode p = 0
  case neg =>
    rw [if_neg hcd]
    generalize presCode p = cd at K0 hcd ⊢
    have q1 : (cd != 0) = true := by rw [bne_iff_ne]; exact hcd
    clear hcd
    obtain ⟨pk, pf, pt, ps, pu, pp, pm⟩ := p
    dsimp only at K0 P0 ⊢
    have d0 := P0.out.c0
    have d1 := P0.out.c1
    have d2 := P0.out.c2
    have d3 := P0.out.c3
    have d4 := P0.out.c4
    have d5 := P0.out.c5
    have d6 := P0.out.c6
    go_enter Tryz.func6, Tryz.ntmps6
    go_wp2_with fail
    refine (K0.out _ (below2 _ _ _)).mono ?_
    rintro e w1 ⟨rfl, hb⟩
    obtain ⟨hc, hf⟩ := bcell hb
    have HB := Lib.hid hb
    have hz := hb.size
    simp at hz
    clear hb d0 d1 d2 d3 d4 d5 d6
    go_wp2
    refine bodyPost_ret (v := .agg #[.int .i64 cd, .slice none 0 0]) (by simp [results, Tryz.results6, go_sem, hc]) rfl ⟨_, _, _, rfl, ⟨rfl, by omega, fun i hi => by omega, .inl rfl⟩, ?_⟩
    exact (((below_then (below2 w _ _) HB.out).setCell (by simp) _).setCell (by simp) _)
  rw [if_pos hcd, hcd]
  rw [hcd] at K0
  have G := goodPr hcd
  have HGD := Lib.hid G.each
  have HAT := Lib.hid (fun i => attrs3_small (p := p) (by have := hsm.texts; omega) (by have := hsm.texts; omega) i)
  have HSI := Lib.hid hsm.more.2
  have KK : Hid (∀ W, Calls Tryz.prog 19 #[.int .i64 p.kind] W fun e w' => e = .returned (.agg #[.int .i64 0, .string (kindW p.kind)]) ∧ Below W.heap.size W w') := Lib.hid fun W => by
    have k := implKindWord_any p.kind W
    have hin : inB p.kind 0 6 = true := by have := G.kind; simp [inB]; omega
    unfold TxtRes kindC kindT at k
    rw [hin] at k
    exact k
  have KS : Hid (∀ W, Calls Tryz.prog 21 #[.int .i64 p.shown] W fun e w' => e = .returned (.agg #[.int .i64 0, .string (showW p.shown)]) ∧ Below W.heap.size W w') := Lib.hid fun W => by
    have k := implShowWord_any p.shown W
    have hin : inB p.shown 0 4 = true := by have := G.shown; simp [inB]; omega
    unfold TxtRes showC showT at k
    rw [hin] at k
    exact k
  have KPR := Lib.hid (fun W hW => priorityText_any p.prio W (by have := G.prio; omega) hW)
  have hfew : n ≤ 20 := by have := G.few; have := HLN.out; omega
  have hks : (kindW p.kind).size ≤ 9223372036854775807 := by
    have := HAT.out
    have key : ∀ j, (kindWs.getD j ByteArray.empty).size ≤ 20 := by
      intro j
      match j with
      | 0 => decide
      | 1 => decide
      | 2 => decide
      | 3 => decide
      | 4 => decide
      | 5 => decide
      | 6 => decide
      | j + 7 =>
        rw [List.getD_eq_getElem?_getD, List.getElem?_eq_none (by show 7 ≤ j + 7; omega)]
        decide
    have := key p.kind.toNat
    unfold kindW
    omega
  have KF : Hid (∀ W : World, Calls Tryz.prog 30 #[.slice (some ⟨W.heap.size, 0, none⟩) 3 3] (W.alloc (.cells #[.string fromT, .string p.sender, .string toT, .string p.goal, .string typeT, .string (kindW p.kind)] 52)) (AttrNew (W.alloc (.cells #[.string fromT, .string p.sender, .string toT, .string p.goal, .string typeT, .string (kindW p.kind)] 52)) (attrs3 p))) := Lib.hid fun W => by
    have k := filledAttrs_any (some ⟨W.heap.size, 0, none⟩) 3 3 [⟨fromT, p.sender⟩, ⟨toT, p.goal⟩, ⟨typeT, kindW p.kind⟩] (W.alloc (.cells #[.string fromT, .string p.sender, .string toT, .string p.goal, .string typeT, .string (kindW p.kind)] 52)) (by decide) (ats_lit3 W _ _ _ _ _ _ ⟨by decide, by have := hsm.texts; omega, by decide, by have := hsm.texts; omega, by decide, hks⟩)
    rwa [filled_three] at k
  have HR : Hid (([rootI p] ++ partL showNm (showW p.shown)) ++ partL statusNm p.status ++ partL prioNm (prioT p.prio) = headL p) := Lib.hid rfl
  have HX : Hid (∀ l, headL p ++ movedTo p.more 0 p.more.length 1 = l → treeL p = l) := Lib.hid fun l e => e
  have HRT : Hid (rootI p = ⟨0, ⟨#[]⟩, csT, prT, attrs3 p⟩) := Lib.hid rfl
  have HLE := Lib.hid (headL_len p)
  have hst := hsm.texts.2.2
  have HWD := Lib.hid (wide_head G (by have := hsm.texts; omega))
  clear hks hcd hsm G
  generalize treeL p = TL at HX ⊢
  generalize headL p = HL at HR HX HLE HWD
  generalize rootI p = RI at HR HRT
  generalize attrs3 p = AT at KF HRT HAT
  obtain ⟨pk, pf, pt, ps, pu, pp, pm⟩ := p
  dsimp only at K0 P0 KK KS KPR KF HR HX HGD HLN HSI H hst
  generalize kindW pk = kw at KK KF
  generalize showW ps = sw at KS HR
  generalize prioT pp = pw at KPR HR
  unfold fromT toT typeT AttrNew at KF
  unfold csT prT at HRT
  unfold showNm statusNm prioNm at HR
  have d0 := P0.out.c0
  have d1 := P0.out.c1
  have d2 := P0.out.c2
  have d3 := P0.out.c3
  have d4 := P0.out.c4
  have d5 := P0.out.c5
  have d6 := P0.out.c6
  have hft := field_text
  obtain ⟨i0, hi0, hz0, hi1, hz2⟩ := info_parts itemInfo
  go_enter Tryz.func6, Tryz.ntmps6
  go_wp2_with fail
  refine (K0.out _ (below2 _ _ _)).mono ?_
  rintro e w1 ⟨rfl, hb⟩
  obtain ⟨hc, hf⟩ := bcell hb
  have P1 := Lib.hid (P0.out.below hb)
  have B1 := Lib.hid hb
  have hz := hb.size
  simp at hz
  have r0 : w1.cell? ⟨w.heap.size + 1, 0, none⟩ = some (.int .i64 0) := by rw [hc _ _ (by simp)]; go_simp
  have r1 : w1.cell? ⟨w.heap.size + 1, 1, none⟩ = some (.slice none 0 0) := by rw [hc _ _ (by simp)]; go_simp
  have g0 : w1.frozen? ⟨w.heap.size + 1, 0, none⟩ = false := by rw [hf _ _ (by simp)]; go_simp
  have g1 : w1.frozen? ⟨w.heap.size + 1, 1, none⟩ = false := by rw [hf _ _ (by simp)]; go_simp
  have BW := Lib.hid (below_then (below2 w (.cells #[.int .i64 pk, .string pf, .string pt, .int .i64 ps, .string pu, .int .i64 pp, .slice a n c] 26) (.cells #[.int .i64 0, .slice none 0 0] 29)) hb)
  have hR : w.heap.size + 1 < w1.heap.size := by omega
  have HRC : Hid (∀ W, Below w1.heap.size w1 W → (W.cell? ⟨w.heap.size + 1, 0, none⟩ = some (.int .i64 0) ∧ W.cell? ⟨w.heap.size + 1, 1, none⟩ = some (.slice none 0 0) ∧ W.frozen? ⟨w.heap.size + 1, 0, none⟩ = false ∧ W.frozen? ⟨w.heap.size + 1, 1, none⟩ = false)) := Lib.hid fun W hb =>
    ⟨(hb.cell (by exact hR)).trans r0, (hb.cell (by exact hR)).trans r1, (hb.frozen (by exact hR)).trans g0, (hb.frozen (by exact hR)).trans g1⟩
  clear hc hf hb P0 K0 B1 d0 d1 d2 d3 d4 d5 d6 r0 r1 g0 g1
  have d0 := P1.out.c0
  have d1 := P1.out.c1
  have d2 := P1.out.c2
  go_wp2_with fail
  have HC : Hid (∀ W, Below w1.heap.size w1 W → (Below w1.heap.size w1 W ∧ W.cell? ⟨w.heap.size, 0, none⟩ = some (.int .i64 pk) ∧ W.cell? ⟨w.heap.size, 1, none⟩ = some (.string pf) ∧ W.cell? ⟨w.heap.size, 2, none⟩ = some (.string pt))) := Lib.hid fun W hb =>
    ⟨hb, (hb.cell (World.block_lt_of_cell? _ _ d0)).trans d0, (hb.cell (World.block_lt_of_cell? _ _ d1)).trans d1, (hb.cell (World.block_lt_of_cell? _ _ d2)).trans d2⟩
  have hS0 := HC.out w1.drew (Below.refl _ _).drew
  clear d0 d1 d2
  first | (go_region_held3 (fun W => Below w1.heap.size w1 W ∧ W.cell? ⟨w.heap.size, 0, none⟩ = some (.int .i64 pk) ∧ W.cell? ⟨w.heap.size, 1, none⟩ = some (.string pf) ∧ W.cell? ⟨w.heap.size, 2, none⟩ = some (.string pt)) (first | with_reducible assumption | with_reducible exact HC.out _ hbr | with_reducible exact HC.out _ hbrk | with_reducible exact HC.out _ (below_al hbrk _))
      (first
        | (go_at_call 19; refine (KK.out _).mono ?_; rintro e w2 ⟨rfl, hbq⟩; have hbrk := below_then (And.left (by with_reducible assumption)) hbq)
        | (go_at_call 30; ((with_reducible refine (KF.out _).mono ?_)); rintro e w3 ⟨a3, n3, c3, rfl, hrow, hn3, hbq⟩; have hbr := below_then (And.left (by with_reducible assumption)) hbq))) | fail
  have BR := Lib.hid hbr
  have ROW := Lib.hid (owns_mono hrow (base' := w1.heap.size) (by have := hbrk.size; simp; omega))
  have P3 := Lib.hid (P1.out.below hbr)
  have hl3 : w.heap.size < w3.heap.size := P3.out.lt
  have d3 := P3.out.c3
  clear hrow hbr hbrk hS0 KK KF HC
  have hbr2 : Hid (Below w1.heap.size w1 (w3.alloc (.cells #[.int .i64 0, .string ⟨#[]⟩, .string ⟨#[106, 97, 98, 98, 101, 114, 58, 99, 108, 105, 101, 110, 116]⟩, .string ⟨#[112, 114, 101, 115, 101, 110, 99, 101]⟩, .slice a3 n3 c3] 54))) := Lib.hid (below_al BR.out _)
  have hg4 := (grow_root ⟨0, ⟨#[]⟩, ⟨#[106, 97, 98, 98, 101, 114, 58, 99, 108, 105, 101, 110, 116]⟩, ⟨#[112, 114, 101, 115, 101, 110, 99, 101]⟩, AT⟩ rfl BR.out.size ROW.out hn3 HAT.out)
  dsimp only at hg4
  rw [← HRT.out] at hg4
  have G4 := Lib.hid hg4
  clear hg4
  go_wp2_with fail
  refine (KS.out _).mono ?_
  rintro e w5 ⟨rfl, hb5⟩
  have G5 := Lib.hid (G4.out.below hb5)
  have B5 := Lib.hid (below_then hbr2.out hb5)
  clear hb5 hbr2 G4 ROW BR d3 KS
  go_wp2_with fail
  refine (withPart_any w1.heap.size _ 1 1 [RI] _ _ _ _ sw w5 B5.out.size (by decide) G5.out).mono ?_
  rintro e w6 ⟨a6, n6, c6, A6, N6, C6, rfl, hg6, hgr6, _⟩
  have G6 := Lib.hid hg6
  have B6 := Lib.hid (grown_on B5.out (Nat.le_refl _) G5.out hgr6)
  have hn6 : n6 ≤ 10 := by have := hg6.len; have := partL_len ⟨#[115, 104, 111, 119]⟩ sw; simp at this ⊢; simp at *; omega
  have P6 := Lib.hid (P1.out.below B6.out)
  have hl6 : w.heap.size < w6.heap.size := P6.out.lt
  have d4 := P6.out.c4
  clear hg6 hgr6 G5 B5 P3 hl3
  go_wp2_with fail
  refine (withPart_any w1.heap.size _ n6 c6 _ _ _ _ _ pu w6 B6.out.size (by omega) G6.out).mono ?_
  rintro e w7 ⟨a7, n7, c7, A7, N7, C7, rfl, hg7, hgr7, _⟩
  have G7 := Lib.hid hg7
  have B7 := Lib.hid (grown_on B6.out (Nat.le_refl _) G6.out hgr7)
  have hn7 : n7 ≤ 20 := by have h1 := hg7.len; have h2 := G6.out.len; have h3 := partL_len ⟨#[115, 116, 97, 116, 117, 115]⟩ pu; rw [List.length_append, h2] at h1; omega
  have P7 := Lib.hid (P1.out.below B7.out)
  have hl7 : w.heap.size < w7.heap.size := P7.out.lt
  have d5 := P7.out.c5
  clear hg7 hgr7 G6 B6 P6 hl6 d4
  go_wp2_with fail
  refine (KPR.out _ (HP.out _ (below_then BW.out B7.out))).mono ?_
  rintro e w8 ⟨rfl, hb8⟩
  have G8 := Lib.hid (G7.out.below hb8)
  have B8 := Lib.hid (below_then B7.out hb8)
  clear hb8 G7 B7 P7 hl7 d5 KPR
  go_wp2_with fail
  refine (withPart_any w1.heap.size _ n7 c7 _ _ _ _ _ pw w8 B8.out.size (by omega) G8.out).mono ?_
  rintro e w9 ⟨a9, n9, c9, A9, N9, C9, rfl, hg9, hgr9, _⟩
  have G9 := Lib.hid hg9
  have B9 := Lib.hid (grown_on B8.out (Nat.le_refl _) G8.out hgr9)
  rw [HR.out] at G9
  have P9 := Lib.hid (P1.out.below B9.out)
  have hl9 : w.heap.size < w9.heap.size := P9.out.lt
  have d6 := P9.out.c6
  clear hg9 hgr9 G8 B8 HR
  have HL9 := Lib.hid G9.out.len
  go_wp2
  go_loopw [5, 48] (fun v i wr => ∃ (k nv cv : Nat) (av : Option Addr) (A : Nat → Option Addr) (N C : Nat → Nat), k ≤ n ∧ i = .int .i64 k ∧ v = .slice av nv cv ∧ GrowIts wr w1.heap.size (.slice av nv cv) nv (HL ++ movedTo pm 0 k 1) A N C ∧ Below w1.heap.size w1 wr) (fun _ i _ => n - (intOf i).toNat)
  case atStart =>
    refine ⟨0, n9, c9, a9, A9, N9, C9, Nat.zero_le _, rfl, rfl, ?_, B9.out⟩
    have e : movedTo pm 0 0 1 = [] := rfl
    rw [e, List.append_nil]
    exact G9.out
  case round =>
    obtain ⟨k, nv, cv, av, A, N, C, hk, rfl, rfl, hg, hb⟩ := hrel
    have HG := Lib.hid hg
    have HB := Lib.hid hb
    have hnv : nv ≤ 40 := by have h1 := hg.len; have h2 := HLE.out; rw [List.length_append, movedTo_length] at h1; omega
    have P := Lib.hid (P1.out.below hb)
    have hlt9 : w.heap.size < wr.heap.size := P.out.lt
    have d6 := P.out.c6
    clear hg hb
    by_cases hlt : k < n
    · obtain ⟨b, A2, N2, C2, rfl, hlo, hhi, hroom, hcs, _, _⟩ := (H.out wr (below_then BW.out HB.out)).row.resolve_left (by omega)
      have hown := hcs k hlt
      have hbb := hroom.1
      have hit := (H.out wr (below_then BW.out HB.out)).it k hlt
      have hcell := hown.1
      have hats := hown.2.ats
      have hI : ItAt wr b (k * 5) (pm.getD k dIt) := ⟨hbb, hit.1, hit.2, hcell.c0, hcell.c1, hcell.c2, hcell.c3, _, _, _, hcell.c4, hats⟩
      have hID : ItAt wr.drew b (k * 5) (pm.getD k dIt) := hI.below ((Below.refl _ _).drew)
      have hgood := HGD.out k (by have := HLN.out; omega)
      have hdep := item_depth hgood
      have HST := Lib.hid (movedTo_step pm (Nat.zero_le k) 1)
      have e0 := hcell.c0
      have hbw1 : b < w1.heap.size := (H.out w1 BW.out).row.resolve_left (by omega) |>.elim fun b' h => by
        obtain ⟨A', N', C', hb', _, _, hr', _⟩ := h
        simp only [Option.some.injEq, Addr.mk.injEq, and_true] at hb'
        rw [hb']
        exact hr'.1
      have HOFF : Hid ((Value.slice av nv cv).ownBlock ≠ some b) := Lib.hid fun e => by have := (HG.out.row.lt b e).1; omega
      have q1 : (k : Int) < (n : Int) := by omega
      have hw1 : IntKind.i64.wrap ((pm.getD k dIt).depth + 1) = (pm.getD k dIt).depth + 1 := IntWalk.i64_in _ (by omega)
      have hw2 : wrap64 ((pm.getD k dIt).depth + 1) = (pm.getD k dIt).depth + 1 := IntWalk.wrap64_in _ (by omega)
      have hal := (HSI.out k (by have := HLN.out; omega)).2.1
      cases hxn : (pm.getD k dIt).name.toList.isEmpty
      · have hx1 := item_elem hgood hxn
        have KP := Lib.hid (partOf_elem b (k * 5) (pm.getD k dIt) wr.drew hID hxn)
        have km := placedE_any b (k * 5) (pm.getD k dIt) ((pm.getD k dIt).depth + 1) wr.drew hal _ _ _ ((((Below.refl _ _).drew).cell (p := ⟨b, k * 5 + 4, none⟩) hbb).trans hcell.c4) hcell.nil (hats.below (Below.refl _ _).drew) hID
        rw [← hx1] at km
        have KM := Lib.hid km
        clear hroom hcs hown hit hcell hats hI hID hgood km hx1 hxn
        generalize pm.getD k dIt = x at KP KM HST e0 hdep hw1 hw2
        obtain ⟨xd, xt, xs, xn, xa⟩ := x
        dsimp only at KP KM HST e0 hdep hw1 hw2
        unfold ItNewRes at KM
        dsimp only at KM
        have hm := methPlacedE
        have ha := aheadE
        go_wp2_with fail
        have hS0 : wr.drew.cell? ⟨b, k * 5, none⟩ = some (.int .i64 xd) := e0
        first | (go_region_held3 (fun W => W.cell? ⟨b, k * 5, none⟩ = some (.int .i64 xd)) (first | with_reducible assumption | with_reducible exact hS6 | with_reducible exact alloc_keep hS6 _ | with_reducible exact hS7)
          (first
            | (go_at_call 33; ((with_reducible refine KP.out.mono ?_)); rintro e w4 ⟨rfl, rfl⟩)
            | (go_at_call 176; ((with_reducible refine KM.out.mono ?_)); rintro e w6 ⟨a5, n5, c5, rfl, hat5, hnil5, hbd⟩; have hb6 := below_of_drew hbd; have hS6 := (hb6.cell (World.block_lt_of_cell? _ _ e0)).trans e0; have HG6 := Lib.hid (HG.out.below hb6))
            | (refine step_own_at (by rfl) _ _ 24 rfl 54 i0 (.agg #[.int .i64 0, .string ByteArray.empty, .string ByteArray.empty, .string ByteArray.empty, .slice none 0 0]) 5 80 Tryz.underlying24 hi0 hz0 hi1 hz2 rfl (by decide) w1.heap.size _ nv _ (by rfl) (HG6.out.row.alloc _) ⟨w6.heap.size, 0, none⟩ 1 1 [.int .i64 (xd + 1), .string xt, .string xs, .string xn, .slice a5 n5 c5] (by rfl) rfl (fun j u hj => itemCells w6 _ _ _ _ _ j u hj) (by intro v hv; simp at hv; rcases hv with rfl | rfl | rfl | rfl | rfl <;> rfl) (by unfold maxLen; omega) (by omega) (by have h1 := hb6.size; have h2 := HB.out.size; simp; omega) ?_; intro v' w7 hown' hgr hat7; obtain ⟨a7, c7, rfl⟩ := owns_slice hown'; have hS7 := hgr.cell (alloc_keep hS6 _) (fun e => HOFF.out (by rw [e]))))) | fail
        have HG7 : Hid (GrowIts w7 w1.heap.size (.slice a7 (nv + 1) c7) (nv + 1) (HL ++ movedTo pm 0 (k + 1) 1) (putA (HL ++ movedTo pm 0 k 1).length a5 A) (putA (HL ++ movedTo pm 0 k 1).length n5 N) (putA (HL ++ movedTo pm 0 k 1).length c5 C)) := Lib.hid (by
          rw [HST.out, ← List.append_assoc]
          have h5 := hat5.only (Only.below (P := fun _ => False) (below1 w6 (.cells #[.int .i64 (xd + 1), .string xt, .string xs, .string xn, .slice a5 n5 c5] 54))) fun _ _ _ h => h
          refine HG.out.snoc (x := ⟨xd + 1, xt, xs, xn, xa⟩) (w0 := w6.alloc (.cells #[.int .i64 (xd + 1), .string xt, .string xs, .string xn, .slice a5 n5 c5] 54)) (below_then hb6 (below1 _ _)) ⟨h5.ats, h5.own.imp id fun ⟨b5, g1, g2, g3, g4⟩ => ⟨b5, g1, g2, by simp; omega, g4⟩⟩ hnil5 HB.out.size hown' hgr ?_
          rcases hat7 with e | e
          · exact .inl e
          · exact .inr ⟨_, e, by simp⟩)
        have HB7 := Lib.hid (((HB.out.trans (hb6.mono HB.out.size)).alloc (by have h1 := hb6.size; have h2 := HB.out.size; omega) (.cells #[.int .i64 (xd + 1), .string xt, .string xs, .string xn, .slice a5 n5 c5] 54)).grown hgr (by have h1 := hb6.size; have h2 := HB.out.size; simp; omega) (fun j hj => (HG.out.row.lt j hj).1))
        clear hown' hgr hat7 hat5 hnil5 hb6 hS6 hS7 hS0 HG6
        go_wp2
        go_roundw
        case rel => exact ⟨k + 1, _, _, _, _, _, _, by omega, by go_num, rfl, HG7.out, HB7.out⟩
        case measure => simp [intOf]; omega
      · obtain ⟨hx1, hx2, hx3⟩ := item_text hgood hxn
        have KP := Lib.hid (partOf_text b (k * 5) (pm.getD k dIt) wr.drew hID hxn)
        have km := placedT_any b (k * 5) (pm.getD k dIt) ((pm.getD k dIt).depth + 1) wr.drew hID
        have ex : (⟨(pm.getD k dIt).depth + 1, (pm.getD k dIt).text, ⟨#[]⟩, ⟨#[]⟩, []⟩ : It) = ⟨(pm.getD k dIt).depth + 1, (pm.getD k dIt).text, (pm.getD k dIt).space, (pm.getD k dIt).name, (pm.getD k dIt).attrs⟩ := by rw [hx1, hx2, hx3]
        rw [ex] at km
        have KM := Lib.hid km
        clear hroom hcs hown hit hcell hats hI hID hgood km hx1 hx2 hx3 ex hxn
        generalize pm.getD k dIt = x at KP KM HST e0 hdep hw1 hw2
        obtain ⟨xd, xt, xs, xn, xa⟩ := x
        dsimp only at KP KM HST e0 hdep hw1 hw2
        unfold ItNewRes at KM
        dsimp only at KM
        have hm := methPlacedT
        have ha := aheadT
        go_wp2_with fail
        have hS0 : wr.drew.cell? ⟨b, k * 5, none⟩ = some (.int .i64 xd) := e0
        first | (go_region_held3 (fun W => W.cell? ⟨b, k * 5, none⟩ = some (.int .i64 xd)) (first | with_reducible assumption | with_reducible exact hS6 | with_reducible exact alloc_keep hS6 _ | with_reducible exact hS7)
          (first
            | (go_at_call 33; ((with_reducible refine KP.out.mono ?_)); rintro e w4 ⟨rfl, rfl⟩)
            | (go_at_call 174; ((with_reducible refine KM.out.mono ?_)); rintro e w6 ⟨a5, n5, c5, rfl, hat5, hnil5, hbd⟩; have hb6 := below_of_drew hbd; have hS6 := (hb6.cell (World.block_lt_of_cell? _ _ e0)).trans e0; have HG6 := Lib.hid (HG.out.below hb6))
            | (refine step_own_at (by rfl) _ _ 24 rfl 54 i0 (.agg #[.int .i64 0, .string ByteArray.empty, .string ByteArray.empty, .string ByteArray.empty, .slice none 0 0]) 5 80 Tryz.underlying24 hi0 hz0 hi1 hz2 rfl (by decide) w1.heap.size _ nv _ (by rfl) (HG6.out.row.alloc _) ⟨w6.heap.size, 0, none⟩ 1 1 [.int .i64 (xd + 1), .string xt, .string xs, .string xn, .slice a5 n5 c5] (by rfl) rfl (fun j u hj => itemCells w6 _ _ _ _ _ j u hj) (by intro v hv; simp at hv; rcases hv with rfl | rfl | rfl | rfl | rfl <;> rfl) (by unfold maxLen; omega) (by omega) (by have h1 := hb6.size; have h2 := HB.out.size; simp; omega) ?_; intro v' w7 hown' hgr hat7; obtain ⟨a7, c7, rfl⟩ := owns_slice hown'; have hS7 := hgr.cell (alloc_keep hS6 _) (fun e => HOFF.out (by rw [e]))))) | fail
        have HG7 : Hid (GrowIts w7 w1.heap.size (.slice a7 (nv + 1) c7) (nv + 1) (HL ++ movedTo pm 0 (k + 1) 1) (putA (HL ++ movedTo pm 0 k 1).length a5 A) (putA (HL ++ movedTo pm 0 k 1).length n5 N) (putA (HL ++ movedTo pm 0 k 1).length c5 C)) := Lib.hid (by
          rw [HST.out, ← List.append_assoc]
          have h5 := hat5.only (Only.below (P := fun _ => False) (below1 w6 (.cells #[.int .i64 (xd + 1), .string xt, .string xs, .string xn, .slice a5 n5 c5] 54))) fun _ _ _ h => h
          refine HG.out.snoc (x := ⟨xd + 1, xt, xs, xn, xa⟩) (w0 := w6.alloc (.cells #[.int .i64 (xd + 1), .string xt, .string xs, .string xn, .slice a5 n5 c5] 54)) (below_then hb6 (below1 _ _)) ⟨h5.ats, h5.own.imp id fun ⟨b5, g1, g2, g3, g4⟩ => ⟨b5, g1, g2, by simp; omega, g4⟩⟩ hnil5 HB.out.size hown' hgr ?_
          rcases hat7 with e | e
          · exact .inl e
          · exact .inr ⟨_, e, by simp⟩)
        have HB7 := Lib.hid (((HB.out.trans (hb6.mono HB.out.size)).alloc (by have h1 := hb6.size; have h2 := HB.out.size; omega) (.cells #[.int .i64 (xd + 1), .string xt, .string xs, .string xn, .slice a5 n5 c5] 54)).grown hgr (by have h1 := hb6.size; have h2 := HB.out.size; simp; omega) (fun j hj => (HG.out.row.lt j hj).1))
        clear hown' hgr hat7 hat5 hnil5 hb6 hS6 hS7 hS0 HG6
        go_wp2
        go_roundw
        case rel => exact ⟨k + 1, _, _, _, _, _, _, by omega, by go_num, rfl, HG7.out, HB7.out⟩
        case measure => simp [intOf]; omega
    · obtain rfl : k = n := by omega
      obtain ⟨r0, r1, g0, g1⟩ := HRC.out wr HB.out
      have hz5 : w.heap.size + 1 < wr.heap.size := by have := HB.out.size; omega
      have ht : TL = HL ++ movedTo pm 0 k 1 := HX.out _ (by rw [HLN.out])
      have HO : Hid (OwnIts wr w1.heap.size wr.heap.size av nv cv TL) := Lib.hid (by
        rw [ht]
        refine HG.out.own (by omega) fun i hi => ?_
        have h1 := HG.out.len
        rw [List.length_append, movedTo_length] at h1
        exact wide_tree HWD.out (fun i hi => item_depth (HGD.out i (by have := HLN.out; omega))) (fun i hi => HSI.out i (by have := HLN.out; omega)) i (by omega))
      clear ht
      go_wp2
      refine bodyPost_ret (v := .agg #[.int .i64 0, .slice av nv cv]) (by simp [results, Tryz.results6, go_sem, r0, r1]) rfl ⟨_, _, _, rfl, ?_, ?_⟩
      · have st : ∀ (W : World) (p : Addr) (v : Value), p.block = w.heap.size + 1 → OwnIts W w1.heap.size wr.heap.size av nv cv TL → OwnIts (W.setCell p v) w1.heap.size wr.heap.size av nv cv TL := fun W p v hp h =>
          h.only (Only.set (P := fun i => i = w.heap.size + 1) W p v hp) fun i h1 h2 hq => by omega
        exact OwnIts.mono (st _ _ _ rfl (st _ _ _ rfl HO.out)) (by have := BW.out.size; omega) (by simp)
      · have hbw := below_then BW.out HB.out
        exact ((hbw.setCell (by show w.heap.size ≤ _; simp) _).setCell (by show w.heap.size ≤ _; simp) _)
end Go.Proofs.YtjkmgpomcnplnaaGreatDoor
