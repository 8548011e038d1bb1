/- spec.TreeFault. -/
import Derived.Test.YtjkmgpomcnplnaaGreatDoorGS7
import Derived.Test.YtjkmgpomcnplnaaGreatDoorGS41
import Derived.Test.YtjkmgpomcnplnaaGreatDoorGS40
import Derived.Test.YtjkmgpomcnplnaaGreatDoorGS35
import Derived.Test.YtjkmgpomcnplnaaGreatDoorGS29
import Derived.Test.YtjkmgpomcnplnaaGreatDoorGS17
import Derived.Test.YtjkmgpomcnplnaaGreatDoorGS39
import Derived.Test.YtjkmgpomcnplnaaGreatDoorGS14
import Derived.Test.YtjkmgpomcnplnaaGreatDoorGS2
import Derived.Test.YtjkmgpomcnplnaaGreatDoorGS13
import Derived.Test.YtjkmgpomcnplnaaGreatDoorGS0
namespace Go.Proofs.YtjkmgpomcnplnaaGreatDoor
open Go.ChangeShapes Go.WideShapes Go.ChangeAt Go.RowKit
set_option linter.unusedSimpArgs false
set_option linter.unusedVariables false
set_option maxRecDepth 100000 in
set_option maxHeartbeats 3200000 in
theorem specTreeFault_any (a : Option Addr) (n c : Nat) (l : List It) (w : World) (hs : SmallIts l) (h : ItsAt w a n c l) :
    Calls Tryz.prog 44 #[.slice a n c] w fun e w' => e = .returned (.int .i64 (treeCode l)) ∧ Below w.heap.size w w' := by
  have hm := h.max
  have HL := Lib.hid h.len
  have H := Lib.hid h
  have HS := Lib.hid hs.2
  clear hs
  by_cases hn : n < 1 ∨ 40 < n
  · have HC := Lib.hid (treeCode_many (l := l) (by have := h.len; omega))
    clear h
    generalize treeCode l = cd at HC
    rcases hn with hn | hn
    · obtain rfl : n = 0 := by omega
      go_enter Tryz.func44, Tryz.ntmps44
      go_wp2
      go_ret
      exact ⟨ret_i HC.out.symm, Below.refl _ _⟩
    · go_enter Tryz.func44, Tryz.ntmps44
      go_wp2
      go_ret
      exact ⟨ret_i HC.out.symm, Below.refl _ _⟩
  · have h1 : 1 ≤ n := by omega
    have h40 : n ≤ 40 := by omega
    have HC1 : Hid (∀ k, k < n → (∀ j, j < k → itemCode (l.getD j dIt) = 0) → itemCode (l.getD k dIt) ≠ 0 → treeCode l = itemCode (l.getD k dIt)) := Lib.hid fun k hk h0 h1 => treeCode_at (by have := h.len; omega) (by have := h.len; omega) h0 h1
    have HC2 : Hid ((∀ j, j < n → itemCode (l.getD j dIt) = 0) → treeCode l = if stands l = true then 0 else 1) := Lib.hid fun h0 => treeCode_end (by have := h.len; omega) (fun j hj => h0 j (by have := h.len; omega))
    obtain ⟨b, o, rfl, h4⟩ : ∃ b o, a = some ⟨b, o, none⟩ ∧ ∀ i, i < n → ItAt w b (o + i * 5) (l.getD i dIt) := by
      rcases h.row with e | h
      · omega
      · exact h
    have H4 := Lib.hid h4
    clear h hn h4
    generalize treeCode l = cd at HC1 HC2
    go_enter Tryz.func44, Tryz.ntmps44
    go_wp2
    go_loopw [15] (fun i wr => ∃ k : Nat, k ≤ n ∧ i = .int .i64 k ∧ (∀ j, j < k → itemCode (l.getD j dIt) = 0) ∧ Below w.heap.size w wr) (fun i _ => n - (intOf i).toNat)
    case atStart => exact ⟨0, Nat.zero_le _, rfl, fun j hj => by omega, Below.refl _ _⟩
    case round =>
      obtain ⟨k, hk, rfl, hz, hb⟩ := hrel
      have HK := Lib.hid hz
      clear hz
      by_cases hlt : k < n
      · have hi := (H4.out k hlt).below hb
        have d0 := hi.c0
        have d1 := hi.c1
        have d2 := hi.c2
        have d3 := hi.c3
        obtain ⟨a4, n4, c4, d4, hat⟩ := hi.c4
        have k1 : (k : Int) < (n : Int) := by omega
        have K := Lib.hid (fun W (hb' : Below wr.heap.size wr W) => specItemFault_any (l.getD k dIt) a4 n4 c4 W (HS.out k (by have := HL.out; omega)) (hat.below hb'))
        have HY : Hid (itemCode (l.getD k dIt) ≠ 0 → cd = itemCode (l.getD k dIt)) := Lib.hid (HC1.out k hlt HK.out)
        have HK2 : Hid (itemCode (l.getD k dIt) = 0 → ∀ j, j < k + 1 → itemCode (l.getD j dIt) = 0) := Lib.hid fun hx j hj => by
          rcases Nat.lt_or_ge j k with h | h
          · exact HK.out j h
          · obtain rfl : j = k := by omega
            exact hx
        have HB := Lib.hid hb
        clear hi hat hb
        generalize itemCode (l.getD k dIt) = ic at K HY HK2
        generalize l.getD k dIt = x at d0 d1 d2 d3 K
        obtain ⟨xd, xt, xs, xn, xa⟩ := x
        dsimp only at d0 d1 d2 d3 K
        by_cases h0 : ic = 0
        · subst h0
          have HK3 := Lib.hid (HK2.out rfl)
          clear HK2 HY
          go_wp2_with fail
          refine (K.out _ (Below.refl _ _)).mono ?_
          rintro e w2 ⟨rfl, hb2⟩
          go_wp2
          go_roundw
          case rel => exact ⟨k + 1, by omega, by go_num, HK3.out, below_then HB.out hb2⟩
          case measure => simp [intOf]; omega
        · have HY2 := Lib.hid (HY.out h0)
          have q1 : (ic != 0) = true := by simpa using h0
          have q2 : (ic == 0) = false := by simpa using h0
          clear HK2 HY h0
          go_wp2_with fail
          refine (K.out _ (Below.refl _ _)).mono ?_
          rintro e w2 ⟨rfl, hb2⟩
          go_wp2
          go_ret
          exact ⟨ret_i HY2.out.symm, below_then HB.out hb2⟩
      · obtain rfl : k = n := by omega
        have K := Lib.hid (specShape_any (some ⟨b, o, none⟩) k c l wr h1 h40 (fun i hi => item_depth (HK.out i hi)) (H.out.below hb))
        have HC3 := Lib.hid (HC2.out HK.out)
        generalize stands l = st at K HC3
        clear HC1 HC2
        cases st
        all_goals
          go_wp2_with fail
          refine K.out.mono ?_
          rintro e w2 ⟨rfl, nd, rfl⟩
          go_wp2
          go_ret
          exact ⟨ret_i HC3.out.symm, below_drewN hb nd⟩
set_option maxRecDepth 100000 in
set_option maxHeartbeats 3200000 in
theorem specPresenceOf_any (lo hi : Nat) (a : Option Addr) (n c : Nat) (l : List It) (w : World) (hs : SmallIts l) (h : OwnIts w lo hi a n c l) :
    Calls Tryz.prog 16 #[.slice a n c] w (PrrOwn w (readCode l) (readVal l)) := by
  have KT := Lib.hid (fun W (hb : Below w.heap.size w W) => specTreeFault_any a n c l W hs (h.below hb).its)
  have KP := Lib.hid (fun W (hb : Below w.heap.size w W) (hc : treeCode l = 0) => l7Presence_any lo hi a n c l W hc (h.below hb))
  have KF := Lib.hid (fun p a n c W hs h => specPresenceFault_any p a n c W hs h)
  have HB0 := Lib.hid (fun o => below1 w o)
  unfold PresRes at KP
  by_cases hc : treeCode l = 0
  · have HC := Lib.hid hc
    cases hr : readP l with
    | none =>
      obtain ⟨e1, e2⟩ := read_none hc hr
      rw [e1, e2]
      rw [hc] at KT
      rw [hr] at KP
      clear e1 e2 hr h hs
      go_enter Tryz.func16, Tryz.ntmps16
      go_wp2_with fail
      refine (KT.out _ (HB0.out _)).mono ?_
      rintro e w1 ⟨rfl, hb1⟩
      have B1 := Lib.hid hb1
      clear hb1
      go_wp2_with fail
      refine (KP.out _ (below_then (HB0.out _) B1.out) HC.out).mono ?_
      rintro e w2 ⟨bb, q, a2, n2, c2, rfl, hg, hb2, ht, hf⟩
      have hbb : bb = false := by
        cases bb
        · rfl
        · cases ht rfl
      subst hbb
      obtain ⟨qk, qf, qt, qs, qu, qp, qm⟩ := q
      have hb3 := below_then (below_then B1.out hb2) (below1 w2 (.cells #[.int .i64 qk, .string qf, .string qt, .int .i64 qs, .string qu, .int .i64 qp, .slice a2 n2 c2] 26))
      obtain ⟨hc1, hf1⟩ := bcell hb3
      have HB3 := Lib.hid hb3
      clear ht hf hg hb2 hb3
      go_wp2
      exact bodyPost_ret (v := .agg #[.int .i64 1, .int .i64 0, .string ⟨#[]⟩, .string ⟨#[]⟩, .int .i64 0, .string ⟨#[]⟩, .int .i64 0, .slice none 0 0]) (by simp [results, Tryz.results16, go_sem, hc1]) rfl (prr_code _ _ _ (below8 (below_then (HB0.out _) HB3.out) (Nat.le_refl _) _ _ _ _ _ _ _ _))
    | some p =>
      obtain ⟨e1, e2⟩ := read_some hc hr
      obtain ⟨hsp, hfew, hbit⟩ := read_small hc hs hr
      rw [e1, e2]
      rw [hc] at KT
      rw [hr] at KP
      have HSP := Lib.hid hsp
      have HBI := Lib.hid hbit
      clear e1 e2 hr h hs hsp hbit
      obtain ⟨pk, pf, pt, ps, pu, pp, pm⟩ := p
      have KF := Lib.hid (fun a n c W h => KF.out ⟨pk, pf, pt, ps, pu, pp, pm⟩ a n c W HSP.out h)
      generalize presCode ⟨pk, pf, pt, ps, pu, pp, pm⟩ = cd at KF ⊢
      dsimp only at KF hfew HBI
      obtain ⟨rv, hrv⟩ : ∃ rv, (if cd ≠ 0 then dPr else (⟨pk, pf, pt, ps, pu, pp, pm⟩ : Pr)) = rv := ⟨_, rfl⟩
      rw [hrv]
      have HRV := Lib.hid hrv
      clear hrv
      go_enter Tryz.func16, Tryz.ntmps16
      go_wp2_with fail
      refine (KT.out _ (HB0.out _)).mono ?_
      rintro e w1 ⟨rfl, hb1⟩
      have B1 := Lib.hid hb1
      have hz1 := hb1.size
      simp at hz1
      clear hb1
      go_wp2_with fail
      refine (KP.out _ (below_then (HB0.out _) B1.out) HC.out).mono ?_
      rintro e w2 ⟨bb, q, a2, n2, c2, rfl, ⟨A2, N2, C2, hg, _, _⟩, hb2, ht, hf⟩
      have hbb : bb = true := by
        cases bb
        · cases hf rfl
        · rfl
      subst hbb
      have hq := ht rfl
      simp only [Option.some.injEq] at hq
      subst hq
      have hlen := hg.len
      dsimp only at hlen hg
      have own2 := hg.own (by omega) (fun i hi => by
        have h1 := HBI.out i (by omega)
        have h2 := h1.2.1
        exact ⟨⟨by omega, by omega⟩, by omega, by omega, by omega⟩)
      have hz2 := hb2.size
      have hb3 := below_then (below_then B1.out hb2) (below1 w2 (.cells #[.int .i64 pk, .string pf, .string pt, .int .i64 ps, .string pu, .int .i64 pp, .slice a2 n2 c2] 26))
      have OW := Lib.hid (own2.below (below1 w2 (.cells #[.int .i64 pk, .string pf, .string pt, .int .i64 ps, .string pu, .int .i64 pp, .slice a2 n2 c2] 26)))
      have HB3 := Lib.hid hb3
      clear ht hf hg hb2 hb3 own2
      go_wp2_with fail
      refine (KF.out _ _ _ _ OW.out.its).mono ?_
      rintro e w3 ⟨rfl, hb4⟩
      have hb5 := below_then HB3.out hb4
      obtain ⟨hc1, hf1⟩ := bcell hb5
      have hp0 : ∀ o, w3.cell? ⟨w2.heap.size, o, none⟩ = (w2.alloc (.cells #[.int .i64 pk, .string pf, .string pt, .int .i64 ps, .string pu, .int .i64 pp, .slice a2 n2 c2] 26)).cell? ⟨w2.heap.size, o, none⟩ := fun o => (bcell hb4).1 _ _ (by simp)
      have hz4 := hb4.size
      simp at hz4
      have HB5 := Lib.hid hb5
      have OW3 := Lib.hid (OW.out.below hb4)
      clear hb4 hb5
      by_cases h0 : cd = 0
      · subst h0
        go_wp2
        refine bodyPost_ret (v := .agg #[.int .i64 0, .int .i64 pk, .string pf, .string pt, .int .i64 ps, .string pu, .int .i64 pp, .slice a2 n2 c2]) (by simp [results, Tryz.results16, go_sem, hc1]) rfl ?_
        have hrv := HRV.out
        rw [if_neg (by simp)] at hrv
        subst hrv
        exact ⟨_, _, _, rfl, (own8 OW3.out (by omega) _ _ _ _ _ _ _ _).mono (by omega) (by simp; omega), below8 (below_then (HB0.out _) HB5.out) (Nat.le_refl _) _ _ _ _ _ _ _ _⟩
      · have h0b : (cd != 0) = true := by rw [bne_iff_ne]; exact h0
        go_wp2
        refine bodyPost_ret (v := .agg #[.int .i64 cd, .int .i64 0, .string ⟨#[]⟩, .string ⟨#[]⟩, .int .i64 0, .string ⟨#[]⟩, .int .i64 0, .slice none 0 0]) (by simp [results, Tryz.results16, go_sem, hc1]) rfl ?_
        have hrv := HRV.out
        rw [if_pos h0] at hrv
        subst hrv
        exact prr_code _ _ _ (below8 (below_then (HB0.out _) HB5.out) (Nat.le_refl _) _ _ _ _ _ _ _ _)
  · obtain ⟨e1, e2⟩ := read_bad hc
    rw [e1, e2]
    generalize treeCode l = cd at hc KT ⊢
    have h0b : (cd != 0) = true := by rw [bne_iff_ne]; exact hc
    clear e1 e2 h hs KP
    go_enter Tryz.func16, Tryz.ntmps16
    go_wp2_with fail
    refine (KT.out _ (HB0.out _)).mono ?_
    rintro e w1 ⟨rfl, hb1⟩
    obtain ⟨hc1, hf1⟩ := bcell hb1
    have HB1 := Lib.hid hb1
    clear hb1
    go_wp2
    exact bodyPost_ret (v := .agg #[.int .i64 cd, .int .i64 0, .string ⟨#[]⟩, .string ⟨#[]⟩, .int .i64 0, .string ⟨#[]⟩, .int .i64 0, .slice none 0 0]) (by simp [results, Tryz.results16, go_sem, hc1]) rfl (prr_code _ _ _ (below8 (below_then (HB0.out _) HB1.out) (Nat.le_refl _) _ _ _ _ _ _ _ _))
theorem readP_cases {l : List It} {p : Pr} (h : rootP (l.getD 0 dIt) dPr = some p) : readP l = kidsF l (kidsL l 0) (kidsL l 0).length 0 ([], p) := by
  unfold readP
  rw [h]
theorem readP_noroot {l : List It} (h : rootP (l.getD 0 dIt) dPr = none) : readP l = none := by
  unfold readP
  rw [h]
theorem small_prsize {q : Pr} (h : SmallPr q) : PrSize q := ⟨by have := h.texts.1; omega, by have := h.texts.2.1; omega, by have := h.texts.2.2; omega⟩
set_option maxRecDepth 100000 in
set_option maxHeartbeats 6400000 in
theorem implPresenceOf_any (lo hi : Nat) (a : Option Addr) (n c : Nat) (l : List It) (w : World) (hs : SmallIts l) (h : OwnIts w lo hi a n c l) (hT : Tabs w) (hPw : Pows w) (ea eb : Addr) (hE : NumErrs w ea eb) :
    Calls Tryz.prog 8 #[.slice a n c] w (PrrOwn w (readCode l) (readVal l)) := by
  have hits := h.its
  obtain rfl : l.length = n := h.len
  have KT := Lib.hid (fun W (hb : Below w.heap.size w W) => implTreeFault_any a l.length c l W (tabs_kept hT hb) (hits.below hb))
  have HB0 := Lib.hid (fun o => below1 w o)
  by_cases hc : treeCode l = 0
  case neg =>
    obtain ⟨e1, e2⟩ := read_bad hc
    rw [e1, e2]
    generalize treeCode l = cd at hc KT ⊢
    have h0b : (cd != 0) = true := by rw [bne_iff_ne]; exact hc
    clear e1 e2 h hs hits hT hPw hE
    go_enter Tryz.func8, Tryz.ntmps8
    go_wp2_with fail
    refine (KT.out _ (HB0.out _)).mono ?_
    rintro e w1 ⟨rfl, hb1⟩
    obtain ⟨hc1, hf1⟩ := bcell hb1
    have HB1 := Lib.hid hb1
    clear hb1
    go_wp2
    exact bodyPost_ret (v := .agg #[.int .i64 cd, .int .i64 0, .string ⟨#[]⟩, .string ⟨#[]⟩, .int .i64 0, .string ⟨#[]⟩, .int .i64 0, .slice none 0 0]) (by simp [results, Tryz.results8, go_sem, hc1]) rfl (prr_code _ _ _ (below8 (below_then (HB0.out _) HB1.out) (Nat.le_refl _) _ _ _ _ _ _ _ _))
  have hR := rises_of hc
  have hn1 := hR.some
  have hn40 := hR.few
  obtain ⟨b, o, rfl, hat⟩ := hits.row.resolve_left (by omega)
  have hok := h.ok
  rw [hc] at KT
  have KF := Lib.hid (fun pb x xa xn xc p w0 W hg hA hm => readFirst_any pb x xa xn xc p none 0 0 w0 W hg hA hm)
  have KI := Lib.hid (fun pb p w0 W (hb : Below w.heap.size w w0) hm hp => readInside_any pb b o c l p w0 W hc (tabs_kept hT hb) (hPw.below hb) ea eb (hE.below hb) (hits.below hb) (fun i hi => (hok i hi).below hb) hm hp)
  have KP := Lib.hid (fun p a n c W (hb : Below w.heap.size w W) hsz h => implPresenceFault_any p a n c W (tabs_kept hT hb) hsz h)
  unfold RootRes at KF
  unfold InsideRes at KI
  have HG := Lib.hid (hR.good 0 (by omega))
  have HC := Lib.hid hc
  have HX := Lib.hid (hok 0 (by omega))
  have HS := Lib.hid hs
  obtain ⟨x, hx⟩ : ∃ x, l.getD 0 dIt = x := ⟨_, rfl⟩
  rw [hx] at HG HX
  have HRN : Hid (rootP x dPr = none → readP l = none) := Lib.hid fun h => readP_noroot (by rw [hx]; exact h)
  have HRS : Hid (∀ p, rootP x dPr = some p → readP l = kidsF l (kidsL l 0) (kidsL l 0).length 0 ([], p)) := Lib.hid fun p h => readP_cases (by rw [hx]; exact h)
  have HRM : Hid (∀ p, rootP x dPr = some p → p.more = []) := Lib.hid fun p h => rootP_rest h
  have KF := Lib.hid (fun pb xa xn xc w0 W hg hA hm => KF.out pb x xa xn xc dPr w0 W hg hA hm)
  generalize kidsL l 0 = ks at KI HRS
  generalize rootP x dPr = rx at KF HRN HRS HRM
  have hx0 : o + 0 * 5 = o := by omega
  rw [hx0] at HX
  obtain ⟨xd, xt, xs, xm, xl⟩ := x
  dsimp only at HX HG KF
  cases hr : readP l with
  | none =>
    obtain ⟨e1, e2⟩ := read_none hc hr
    rw [e1, e2]
    have HR := Lib.hid hr
    clear e1 e2 hr h hs hits hT hPw hE hat hok hR hc hx hx0 KP HS
    go_enter Tryz.func8, Tryz.ntmps8
    go_wp2_with fail
    refine (KT.out _ (HB0.out _)).mono ?_
    rintro e w1 ⟨rfl, hb1⟩
    have HB1 := Lib.hid hb1
    have hbw1 := below_then (HB0.out _) hb1
    have HW1 := Lib.hid hbw1
    have HP0 := Lib.hid (PrMut.new w1 w1 (Below.refl _ _) 69 dPr none 0 0)
    have hx1 := HX.out.below hbw1
    have hx2 := hx1.below (below1 w1 (.cells #[.int .i64 0, .string ⟨#[]⟩, .string ⟨#[]⟩, .int .i64 0, .string ⟨#[]⟩, .int .i64 0, .slice none 0 0] 69))
    obtain ⟨a4, n4, c4, z4, _, hat4⟩ := hx1.cap
    have z4 := ((below1 w1 (.cells #[.int .i64 0, .string ⟨#[]⟩, .string ⟨#[]⟩, .int .i64 0, .string ⟨#[]⟩, .int .i64 0, .slice none 0 0] 69)).cell (World.block_lt_of_cell? _ _ z4)).trans z4
    have HAT := Lib.hid hat4
    have z0 := hx2.is.c0
    have z1 := hx2.is.c1
    have z2 := hx2.is.c2
    have z3 := hx2.is.c3
    have hfirst : (0 : Int) < (l.length : Int) := by omega
    clear hb1 hbw1 hx1 hx2 hat4
    go_wp2_with fail
    refine (KF.out _ a4 n4 c4 w1 _ HG.out HAT.out HP0.out).mono ?_
    rintro e w2 ⟨bb, q, rfl, hq, hy, hno⟩
    have HQ := Lib.hid hq
    have HY := Lib.hid hy
    have HNO := Lib.hid hno
    clear hq hy hno z0 z1 z2 z3 z4
    cases bb
    · have hb9 := below_then HB1.out (HQ.out).below
      obtain ⟨hc1, hf1⟩ := bcell hb9
      have HB9 := Lib.hid (below_then (HB0.out _) hb9)
      clear hb9
      go_wp2
      exact bodyPost_ret (v := .agg #[.int .i64 1, .int .i64 0, .string ⟨#[]⟩, .string ⟨#[]⟩, .int .i64 0, .string ⟨#[]⟩, .int .i64 0, .slice none 0 0]) (by simp [results, Tryz.results8, go_sem, hc1]) rfl (prr_code _ _ _ (below8 HB9.out (Nat.le_refl _) _ _ _ _ _ _ _ _))
    · go_wp2_with fail
      refine (KI.out _ q w1 w2 HW1.out (HRM.out q (HY.out (by first | rfl | trivial))) HQ.out).mono ?_
      rintro e w3 ⟨bb2, q2, a2, n2, c2, rfl, hq2, hy2, hno2⟩
      have HQ2 := Lib.hid hq2
      have HY2 := Lib.hid hy2
      have HNO2 := Lib.hid hno2
      clear hq2 hy2 hno2
      cases bb2
      · have hb9 := below_then HB1.out (HQ2.out).below
        obtain ⟨hc1, hf1⟩ := bcell hb9
        have HB9 := Lib.hid (below_then (HB0.out _) hb9)
        clear hb9
        go_wp2
        exact bodyPost_ret (v := .agg #[.int .i64 1, .int .i64 0, .string ⟨#[]⟩, .string ⟨#[]⟩, .int .i64 0, .string ⟨#[]⟩, .int .i64 0, .slice none 0 0]) (by simp [results, Tryz.results8, go_sem, hc1]) rfl (prr_code _ _ _ (below8 HB9.out (Nat.le_refl _) _ _ _ _ _ _ _ _))
      · exact absurd (HR.out.symm.trans ((HRS.out q (HY.out (by first | rfl | trivial))).trans (HY2.out (by first | rfl | trivial)).1)) (by simp)
  | some pr =>
    obtain ⟨e1, e2⟩ := read_some hc hr
    obtain ⟨hsp, hfew, hbit⟩ := read_small hc hs hr
    rw [e1, e2]
    have HR := Lib.hid hr
    have HBI := Lib.hid hbit
    obtain ⟨pk, pf, pt, ps, pu, pp, pm⟩ := pr
    have KF2 := Lib.hid (fun a n c W hb h => KP.out ⟨pk, pf, pt, ps, pu, pp, pm⟩ a n c W hb (small_prsize hsp) h)
    clear e1 e2 hr h hs hits hT hPw hE hat hok hR hc hx hx0 hsp hbit KP HS
    generalize presCode ⟨pk, pf, pt, ps, pu, pp, pm⟩ = cd at KF2 ⊢
    dsimp only at KF2 hfew HBI
    obtain ⟨rv, hrv⟩ : ∃ rv, (if cd ≠ 0 then dPr else (⟨pk, pf, pt, ps, pu, pp, pm⟩ : Pr)) = rv := ⟨_, rfl⟩
    rw [hrv]
    have HRV := Lib.hid hrv
    clear hrv
    go_enter Tryz.func8, Tryz.ntmps8
    go_wp2_with fail
    refine (KT.out _ (HB0.out _)).mono ?_
    rintro e w1 ⟨rfl, hb1⟩
    have HB1 := Lib.hid hb1
    have hbw1 := below_then (HB0.out _) hb1
    have HW1 := Lib.hid hbw1
    have HP0 := Lib.hid (PrMut.new w1 w1 (Below.refl _ _) 69 dPr none 0 0)
    have hx1 := HX.out.below hbw1
    have hx2 := hx1.below (below1 w1 (.cells #[.int .i64 0, .string ⟨#[]⟩, .string ⟨#[]⟩, .int .i64 0, .string ⟨#[]⟩, .int .i64 0, .slice none 0 0] 69))
    obtain ⟨a4, n4, c4, z4, _, hat4⟩ := hx1.cap
    have z4 := ((below1 w1 (.cells #[.int .i64 0, .string ⟨#[]⟩, .string ⟨#[]⟩, .int .i64 0, .string ⟨#[]⟩, .int .i64 0, .slice none 0 0] 69)).cell (World.block_lt_of_cell? _ _ z4)).trans z4
    have HAT := Lib.hid hat4
    have z0 := hx2.is.c0
    have z1 := hx2.is.c1
    have z2 := hx2.is.c2
    have z3 := hx2.is.c3
    have hfirst : (0 : Int) < (l.length : Int) := by omega
    clear hb1 hbw1 hx1 hx2 hat4
    go_wp2_with fail
    refine (KF.out _ a4 n4 c4 w1 _ HG.out HAT.out HP0.out).mono ?_
    rintro e w2 ⟨bb, q, rfl, hq, hy, hno⟩
    have HQ := Lib.hid hq
    have HY := Lib.hid hy
    have HNO := Lib.hid hno
    clear hq hy hno z0 z1 z2 z3 z4
    cases bb
    · exact absurd (HR.out.symm.trans (HRN.out (HNO.out (by first | rfl | trivial)))) (by simp)
    · go_wp2_with fail
      refine (KI.out _ q w1 w2 HW1.out (HRM.out q (HY.out (by first | rfl | trivial))) HQ.out).mono ?_
      rintro e w3 ⟨bb2, q2, a2, n2, c2, rfl, hq2, hy2, hno2⟩
      have HQ2 := Lib.hid hq2
      have HY2 := Lib.hid hy2
      have HNO2 := Lib.hid hno2
      clear hq2 hy2 hno2
      cases bb2
      · exact absurd (HR.out.symm.trans ((HRS.out q (HY.out (by first | rfl | trivial))).trans (HNO2.out (by first | rfl | trivial)))) (by simp)
      · obtain ⟨hr2, A2, N2, C2, hg⟩ := HY2.out (by first | rfl | trivial)
        have hrp := (HRS.out q (HY.out (by first | rfl | trivial))).trans hr2
        have hpe : q2 = ⟨pk, pf, pt, ps, pu, pp, pm⟩ := by have := HR.out.symm.trans hrp; simpa using this.symm
        subst hpe
        have hlen2 := hg.len
        dsimp only at hlen2 hg
        have own2 := hg.own (by omega) (fun i hi => by
          have h1 := HBI.out i (by omega)
          have h2 := h1.2.1
          exact ⟨⟨by omega, by omega⟩, by omega, by omega, by omega⟩)
        have hw2 : w.heap.size + 1 ≤ w1.heap.size := by have := HB1.out.size; simpa using this
        have hw3 : w1.heap.size ≤ w2.heap.size := HQ.out.below.size
        have OW := Lib.hid own2
        have y0 := HQ2.out.is.c0
        have y1 := HQ2.out.is.c1
        have y2 := HQ2.out.is.c2
        have y3 := HQ2.out.is.c3
        have y4 := HQ2.out.is.c4
        have y5 := HQ2.out.is.c5
        have y6 := HQ2.out.is.c6
        have hlt9 := HQ2.out.is.lt
        dsimp only at y0 y1 y2 y3 y4 y5 y6
        have HB9 := Lib.hid (below_then HB1.out HQ2.out.below)
        clear hg hr2 hrp own2
        go_wp2_with fail
        refine (KF2.out a2 n2 c2 w3 (below_then HW1.out HQ2.out.below) OW.out.its).mono ?_
        rintro e w4 ⟨rfl, hb4⟩
        have hb5 := below_then HB9.out hb4
        obtain ⟨hc1, hf1⟩ := bcell hb5
        have hz4 := hb4.size
        have HB5 := Lib.hid hb5
        have OW3 := Lib.hid (OW.out.below hb4)
        have k : ∀ o v, w3.cell? ⟨w1.heap.size, o, none⟩ = some v → w4.cell? ⟨w1.heap.size, o, none⟩ = some v := fun o v h => (hb4.cell (p := ⟨w1.heap.size, o, none⟩) hlt9).trans h
        have y0 := k _ _ y0
        have y1 := k _ _ y1
        have y2 := k _ _ y2
        have y3 := k _ _ y3
        have y4 := k _ _ y4
        have y5 := k _ _ y5
        have y6 := k _ _ y6
        clear hb4 hb5 k
        by_cases h0 : cd = 0
        · subst h0
          go_wp2
          refine bodyPost_ret (v := .agg #[.int .i64 0, .int .i64 pk, .string pf, .string pt, .int .i64 ps, .string pu, .int .i64 pp, .slice a2 n2 c2]) (by simp [results, Tryz.results8, go_sem, hc1]) rfl ?_
          have hrv := HRV.out
          rw [if_neg (by simp)] at hrv
          subst hrv
          exact ⟨_, _, _, rfl, (own8 OW3.out (by omega) _ _ _ _ _ _ _ _).mono (by omega) (by simp; omega), below8 (below_then (HB0.out _) HB5.out) (Nat.le_refl _) _ _ _ _ _ _ _ _⟩
        · have h0b : (cd != 0) = true := by rw [bne_iff_ne]; exact h0
          go_wp2
          refine bodyPost_ret (v := .agg #[.int .i64 cd, .int .i64 0, .string ⟨#[]⟩, .string ⟨#[]⟩, .int .i64 0, .string ⟨#[]⟩, .int .i64 0, .slice none 0 0]) (by simp [results, Tryz.results8, go_sem, hc1]) rfl ?_
          have hrv := HRV.out
          rw [if_pos h0] at hrv
          subst hrv
          exact prr_code _ _ _ (below8 (below_then (HB0.out _) HB5.out) (Nat.le_refl _) _ _ _ _ _ _ _ _)
set_option maxHeartbeats 1600000 in
theorem specKindWord_any (k : Int) (w : World) : Calls Tryz.prog 20 #[.int .i64 k] w (TxtRes w (kindC k) (kindT k)) := by
  by_cases h : 0 ≤ k ∧ k ≤ 6
  · have hin : inB k 0 6 = true := by simp [inB]; omega
    have hc : k = 0 ∨ k = 1 ∨ k = 2 ∨ k = 3 ∨ k = 4 ∨ k = 5 ∨ k = 6 := by omega
    rcases hc with rfl | rfl | rfl | rfl | rfl | rfl | rfl
    all_goals
      go_enter Tryz.func20, Tryz.ntmps20
      go_wp2_with fail
      refine (l1In_any _ _ _ _).mono ?_
      rintro e w1 ⟨rfl, rfl⟩
      go_wp2_with fail
      refine (l7Kinds_any _).mono ?_
      rintro e w1 ⟨rfl, hz, hb, c0, c1, c2, c3, c4, c5, c6⟩
      obtain ⟨hc, hf⟩ := bcell hb
      have HB := Lib.hid hb
      simp at hz c0 c1 c2 c3 c4 c5 c6
      clear hb
      go_wp2
      exact bodyPost_ret (v := .agg #[.int .i64 0, .string _]) (by simp [results, Tryz.results20, go_sem, hc]; rfl) rfl ⟨rfl, (((below1 w _).trans (HB.out.mono (by simp))).setCell (by simp) _).setCell (by simp) _⟩
  · have hin : inB k 0 6 = false := by simp [inB]; omega
    unfold kindC kindT
    rw [hin]
    go_enter Tryz.func20, Tryz.ntmps20
    go_wp2_with fail
    refine (l1In_any _ _ _ _).mono ?_
    rintro e w1 ⟨rfl, rfl⟩
    rw [hin]
    go_wp2
    exact bodyPost_ret (v := .agg #[.int .i64 3, .string _]) (by simp [results, Tryz.results20, go_sem]; rfl) rfl ⟨rfl, below1 w _⟩
set_option maxHeartbeats 1600000 in
theorem specShowWord_any (k : Int) (w : World) : Calls Tryz.prog 22 #[.int .i64 k] w (TxtRes w (showC k) (showT k)) := by
  by_cases h : 0 ≤ k ∧ k ≤ 4
  · have hin : inB k 0 4 = true := by simp [inB]; omega
    have hc : k = 0 ∨ k = 1 ∨ k = 2 ∨ k = 3 ∨ k = 4 := by omega
    rcases hc with rfl | rfl | rfl | rfl | rfl
    all_goals
      go_enter Tryz.func22, Tryz.ntmps22
      go_wp2_with fail
      refine (l1In_any _ _ _ _).mono ?_
      rintro e w1 ⟨rfl, rfl⟩
      go_wp2_with fail
      refine (l7Shows_any _).mono ?_
      rintro e w1 ⟨rfl, hz, hb, c0, c1, c2, c3, c4⟩
      obtain ⟨hc, hf⟩ := bcell hb
      have HB := Lib.hid hb
      simp at hz c0 c1 c2 c3 c4
      clear hb
      go_wp2
      exact bodyPost_ret (v := .agg #[.int .i64 0, .string _]) (by simp [results, Tryz.results22, go_sem, hc]; rfl) rfl ⟨rfl, (((below1 w _).trans (HB.out.mono (by simp))).setCell (by simp) _).setCell (by simp) _⟩
  · have hin : inB k 0 4 = false := by simp [inB]; omega
    unfold showC showT
    rw [hin]
    go_enter Tryz.func22, Tryz.ntmps22
    go_wp2_with fail
    refine (l1In_any _ _ _ _).mono ?_
    rintro e w1 ⟨rfl, rfl⟩
    rw [hin]
    go_wp2
    exact bodyPost_ret (v := .agg #[.int .i64 3, .string _]) (by simp [results, Tryz.results22, go_sem]; rfl) rfl ⟨rfl, below1 w _⟩
theorem neqText (x : Int) (s : ByteArray) (w : World) : (binOp .neq 42 (.agg #[.int .i64 x, .string s]) (.agg #[.int .i64 x, .string s])).run Tryz.prog w = .ok (.bool false) w := by
  have u3 := Tryz.underlying2
  have u4 := Tryz.underlying9
  have hS : Tryz.prog.underlying 42 = some (.struct (Tryz.prog.fieldsOf 42)) := by kernel_rfl
  rw [run_neq_struct, show (10000 : Nat) = 9999 + 1 from rfl, run_equalIn_agg w 9999 _ _ _ hS (by kernel_rfl)]
  simp only [Program.fieldsOf, Tryz.underlying42]
  go_simp
structure InRow (W : World) (a : Option Addr) (n c : Nat) (xs : List Int) : Prop where
  max : n ≤ maxLen
  len : xs.length = n
  byte : ∀ i, 0 ≤ xs.getD i 0 ∧ xs.getD i 0 ≤ 255
  row : n = 0 ∨ ∃ rb ro, a = some ⟨rb, ro, none⟩ ∧ rb < W.heap.size ∧ ∀ i, i < n → W.cell? ⟨rb, ro + i, none⟩ = some (.int .u8 (xs.getD i 0))
theorem InRow.nil (W : World) : InRow W none 0 0 [] := ⟨by decide, rfl, fun i => by simp, .inl rfl⟩
theorem InRow.cells {W : World} {x : Addr} {n : Nat} {zs : List Int} (hn : n ≤ zs.length) (hcell : ∀ i, i < zs.length → W.cell? (x.add i) = some (.int .u8 (zs.getD i 0))) :
    n = 0 ∨ ∃ rb ro, some x = some ⟨rb, ro, none⟩ ∧ rb < W.heap.size ∧ ∀ i, i < n → W.cell? ⟨rb, ro + i, none⟩ = some (.int .u8 (zs.getD i 0)) := by
  by_cases h0 : n = 0
  · exact .inl h0
  · obtain ⟨b, o, s⟩ := x
    have hc := hcell 0 (by omega)
    have hs : s = none := by simpa [Addr.add] using World.cell?_spot hc
    subst hs
    refine .inr ⟨b, o, rfl, by simpa [Addr.add] using World.block_lt_of_cell? W _ hc, fun i hi => ?_⟩
    have := hcell i (by omega)
    rwa [Addr.add_lit] at this
theorem InRow.ofCells {W : World} {x : Addr} {n c : Nat} {zs : List Int} (hl : n ≤ c) (hm : c ≤ maxLen) (hz : zs.length = c) (hcell : ∀ i, i < zs.length → W.cell? (x.add i) = some (.int .u8 (zs.getD i 0)))
    (hwz : ∀ y ∈ zs, (Lit.int .u8 y).wf = true) : InRow W (some x) n c (zs.take n) := by
  have hb : ∀ i, 0 ≤ zs.getD i 0 ∧ zs.getD i 0 ≤ 255 := by
    intro i
    rw [List.getD_eq_getElem?_getD]
    by_cases hi : i < zs.length
    · rw [List.getElem?_eq_getElem hi]
      have := hwz _ (List.getElem_mem hi)
      simp only [Lit.wf, Bool.and_eq_true, decide_eq_true_eq] at this
      exact this
    · rw [List.getElem?_eq_none (by omega)]
      simp
  have hg : ∀ i, i < n → (zs.take n).getD i 0 = zs.getD i 0 := fun i hi => by
    simp only [List.getD_eq_getElem?_getD, List.getElem?_take, hi, if_true]
  refine ⟨Nat.le_trans hl hm, by rw [List.length_take]; omega, fun i => ?_, ?_⟩
  · by_cases hi : i < n
    · rw [hg i hi]
      exact hb i
    · rw [List.getD_eq_getElem?_getD, List.getElem?_eq_none (by rw [List.length_take]; omega)]
      simp
  · rcases InRow.cells (x := x) (n := n) (by omega) hcell with h | ⟨rb, ro, h1, h2, h3⟩
    · exact .inl h
    · exact .inr ⟨rb, ro, h1, h2, fun i hi => by rw [hg i hi]; exact h3 i hi⟩
theorem inRow_owned {W : World} {B : Nat} {a : Option Addr} {n c : Nat} {xs : List Int} (h : W.ownsRow B 5 1 (.slice a n c) n (xs.map (Value.int .u8))) (hb : ∀ i, 0 ≤ xs.getD i 0 ∧ xs.getD i 0 ≤ 255) : InRow W a n c xs := by
  have hl := owns_length h
  rcases Row.of_owns h with ⟨hv, rfl⟩ | ⟨b, o, cap, hv, h1, h2, h3, h4⟩
  · simp only [Value.slice.injEq] at hv
    obtain ⟨rfl, rfl, rfl⟩ := hv
    exact ⟨by decide, rfl, hb, .inl rfl⟩
  · simp only [Value.slice.injEq] at hv
    obtain ⟨rfl, rfl, rfl⟩ := hv
    exact ⟨Nat.le_trans h1 h2, rfl, hb, .inr ⟨b, o, rfl, h3, h4⟩⟩
end Go.Proofs.YtjkmgpomcnplnaaGreatDoor
