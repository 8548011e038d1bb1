/- The program's readInside: what the root's kids say. -/
import Derived.Test.YtjkmgpomcnplnaaGreatDoorGS38
import Derived.Deep.RegionHeld3
namespace Go.Proofs.YtjkmgpomcnplnaaGreatDoor
open Go.ChangeShapes Go.WideShapes Go.ChangeAt Go.RowKit
set_option linter.unusedSimpArgs false
set_option linter.unusedVariables false
def InsideRes (w0 w : World) (pb : Nat) (r : Option Pr) (e : Ending) (w' : World) : Prop :=
  ∃ (bb : Bool) (q : Pr) (a : Option Addr) (n c : Nat), e = .returned (.bool bb) ∧ PrMut w0 w' pb q a n c ∧ (bb = true → r = some q ∧ ∃ A N C, GrowIts w' w.heap.size (.slice a n c) n q.more A N C) ∧ (bb = false → r = none)
theorem inside_no {w0 w wr : World} {pb : Nat} {q : Pr} {a : Option Addr} {n c : Nat} {r : Option Pr} (h : PrMut w0 wr pb q a n c) (hr : r = none) : InsideRes w0 w pb r (.returned (.bool false)) wr :=
  ⟨false, q, a, n, c, rfl, h, by simp, fun _ => hr⟩
theorem grow_base {w : World} {B B' : Nat} {v : Value} {n : Nat} {l : List It} {A : Nat → Option Addr} {N C : Nat → Nat} (h : GrowIts w B v n l A N C) (hle : B' ≤ B) : GrowIts w B' v n l A N C :=
  ⟨owns_mono h.row hle, fun i hi => ⟨⟨(h.ats i hi).1.ats, (h.ats i hi).1.own.imp id fun ⟨b, g1, g2, g3, g4⟩ => ⟨b, g1, by omega, g3, g4⟩⟩, (h.ats i hi).2⟩, h.apart, h.each⟩
theorem inside_yes {w0 w W0 wr : World} {l : List It} {pb m j x : Nat} {q : Pr} {sn : List ByteArray} {D : DataW Unit} {a : Option Addr} {n c : Nat} {r : Option Pr} (h : InSt w0 W0 wr l pb m j x q sn D a n c r) (hw : w.heap.size ≤ W0.heap.size) (hr : r = some q) : InsideRes w0 w pb r (.returned (.bool true)) wr := by
  obtain ⟨A, N, C, hg⟩ := h.more
  exact ⟨true, q, a, n, c, rfl, h.mt, fun _ => ⟨hr, A, N, C, grow_base hg hw⟩, by simp⟩
theorem partOne_more {nm t : ByteArray} {p q : Pr} (h : partOne nm t p = some q) : q.more = p.more := by
  unfold partOne at h
  split at h
  · split at h
    · cases h
    · cases h; rfl
  · split at h
    · cases h; rfl
    · split at h
      · split at h
        · cases h; rfl
        · cases h
      · cases h
theorem held5o {P : Nat → Prop} {W W' : World} {p1 p2 p3 p4 p5 : Addr} {v1 v2 v3 v4 v5 : Value} (ho : Only P W W') (n1 : ¬ P p1.block) (n2 : ¬ P p2.block) (n3 : ¬ P p3.block) (n4 : ¬ P p4.block) (n5 : ¬ P p5.block)
    (h : W.cell? p1 = some v1 ∧ W.cell? p2 = some v2 ∧ W.cell? p3 = some v3 ∧ W.cell? p4 = some v4 ∧ W.cell? p5 = some v5) :
    W'.cell? p1 = some v1 ∧ W'.cell? p2 = some v2 ∧ W'.cell? p3 = some v3 ∧ W'.cell? p4 = some v4 ∧ W'.cell? p5 = some v5 := by
  obtain ⟨h1, h2, h3, h4, h5⟩ := h
  have k : ∀ p v, ¬ P p.block → W.cell? p = some v → W'.cell? p = some v := fun p v hn h => (ho.cell (World.block_lt_of_cell? W _ h) hn).trans h
  exact ⟨k _ _ n1 h1, k _ _ n2 h2, k _ _ n3 h3, k _ _ n4 h4, k _ _ n5 h5⟩
theorem kidOne_none {l : List It} {i : Nat} {sn : List ByteArray} {p : Pr} (hs : ¬ (l.getD i dIt).space.toList ≠ csL) (h : partP l i p = none) : kidOne l i (sn, p) = none := by
  unfold kidOne
  by_cases he : (l.getD i dIt).name.toList.isEmpty = true
  · rw [if_pos he]
  · rw [if_neg he, if_neg hs]
    by_cases hm : 0 ≤ hasIx sn (l.getD i dIt).name
    · rw [if_pos hm]
    · rw [if_neg hm, h]
theorem kidOne_text {l : List It} {i : Nat} {s : List ByteArray × Pr} (he : (l.getD i dIt).name.toList.isEmpty = true) : kidOne l i s = none := by
  unfold kidOne
  rw [if_pos he]
set_option maxRecDepth 100000 in
set_option maxHeartbeats 6400000 in
theorem readInside_any (pb bi oi c : Nat) (l : List It) (p : Pr) (w0 w : World) (hc : treeCode l = 0) (hT : Tabs w0) (hPw : Pows w0) (ea eb : Addr) (hE : NumErrs w0 ea eb) (hI : ItsAt w0 (some ⟨bi, oi, none⟩) l.length c l) (hok : ∀ i, i < l.length → ItOk w0 bi (oi + i * 5) (l.getD i dIt)) (hmo : p.more = []) (h : PrMut w0 w pb p none 0 0) :
    Calls Tryz.prog 40 #[.pointer (some ⟨pb, 0, none⟩), .slice (some ⟨bi, oi, none⟩) l.length c] w (InsideRes w0 w pb (kidsF l (kidsL l 0) (kidsL l 0).length 0 ([], p))) := by
  have hmm := @run_makeMap Tryz.prog
  have hR := rises_of hc
  have H := Lib.hid h
  have HR := Lib.hid hR
  have HC := Lib.hid hc
  have HT := Lib.hid hT
  have HPW := Lib.hid hPw
  have HE := Lib.hid hE
  have HI := Lib.hid hI
  have HOK := Lib.hid hok
  have hplt := h.is.lt
  have hpge := h.ge
  have hw0 : w0.heap.size ≤ w.heap.size := h.below.size
  have hbi : bi < w0.heap.size := (hok 0 (by have := hR.some; omega)).is.lt
  have KN := Lib.hid (fun W (hb : Below w0.heap.size w0 W) => nodesOf_any bi oi c l W hR fun i hi => ((hok i hi).is).below hb)
  unfold NodesRes at KN
  obtain ⟨rr, hrr⟩ : ∃ rr, kidsF l (kidsL l 0) (kidsL l 0).length 0 ([], p) = rr := ⟨_, rfl⟩
  rw [hrr]
  have HRR0 : Hid (rr = kidsF l (kidsL l 0) ((kidsUp l l.length 0).length - 0) 0 ([], p)) := Lib.hid (by
    rw [← hrr, ← kids_same hR hR.some, List.length_map, Nat.sub_zero])
  have HM0 : Hid ((w.alloc (.map #[] 0)).ownsMap Tryz.prog 9 (methElem pb) w.heap.size 0 (.map [])) := Lib.hid (by
    have h := World.ownsMap_made w Tryz.prog 9 (methElem pb)
    simpa using h)
  have HLEN : Hid (1 ≤ l.length ∧ l.length ≤ 40) := Lib.hid ⟨hR.some, hR.few⟩
  have HMO := Lib.hid hmo
  clear h hR hc hT hPw hE hI hok hrr hmo
  go_enter Tryz.func40, Tryz.ntmps40
  go_wp2_with (first
    | (refine wpList_insert_in _ rfl _ _ _ 95 rfl 9 93 mkeyLaw Tryz.underlying95 (methElem pb) w.heap.size 2 _ rfl HM2.out (by unfold maxLen; omega) _ _ _ rfl rfl (mkeyOf _ (by decide)) _ _ (methElem_is pb _) ?_; intro w3 h3 t3; have HM3 := Lib.hid h3; have HT3 := Lib.hid t3; clear h3 t3)
    | (refine wpList_insert_in _ rfl _ _ _ 95 rfl 9 93 mkeyLaw Tryz.underlying95 (methElem pb) w.heap.size 1 _ rfl HM1.out (by unfold maxLen; omega) _ _ _ rfl rfl (mkeyOf _ (by decide)) _ _ (methElem_is pb _) ?_; intro w2 h2 t2; have HM2 := Lib.hid h2; have HT2 := Lib.hid t2; clear h2 t2)
    | (refine wpList_insert_in _ rfl _ _ _ 95 rfl 9 93 mkeyLaw Tryz.underlying95 (methElem pb) w.heap.size 0 _ rfl HM0.out (by unfold maxLen; omega) _ _ _ rfl rfl (mkeyOf _ (by decide)) _ _ (methElem_is pb _) ?_; intro w1 h1 t1; have HM1 := Lib.hid h1; have HT1 := Lib.hid t1; clear h1 t1))
  have b0 := below1 w (.map #[] 0)
  have hgr : ∀ j, some w.heap.size = some j → w.heap.size ≤ j := fun j hj => by have := Option.some.inj hj; omega
  have b1 := b0.grown HT1.out.grown b0.size hgr
  have b2 := b1.grown HT2.out.grown b1.size hgr
  have b3 := b2.grown HT3.out.grown b2.size hgr
  have hs3 : w.heap.size < w3.heap.size := by have h1 := HT1.out.grown.size; have h2 := HT2.out.grown.size; have h3 := HT3.out.grown.size; simp at h1; omega
  have HP3 := Lib.hid (H.out.keep b3)
  have HMA : Hid (∃ D, MayAt w0 w3 pb w.heap.size D (leftT partTs []) partG) := Lib.hid ⟨_, HM3.out, by
    have h := May.three (g := partG) show_status show_prio status_prio
    rw [partG_show, partG_status, partG_prio] at h
    rw [leftT_nil]
    exact h, by omega, by omega⟩
  clear HM0 HM1 HM2 HM3 HT1 HT2 HT3 b0 b1 b2 b3 hgr hmm H
  obtain ⟨m, hm⟩ : ∃ m, w.heap.size = m := ⟨_, rfl⟩
  rw [hm] at HMA hs3 hplt hw0 ⊢
  have HMW := Lib.hid hm
  clear hm
  go_wp2_with fail
  refine (KN.out w3 HP3.out.below).mono ?_
  rintro e W0 ⟨rb, BN, nb, KA, KNN, KC, rfl, hrb, hBN, hN, hat, hb0⟩
  have hlen1 := HLEN.out.1
  have d0 := hat 0 (by omega)
  unfold ptrN at d0
  have p2 := hN.c2 0 (by omega)
  have hs0 : w3.heap.size ≤ W0.heap.size := hb0.size
  have hpb0 : pb < W0.heap.size := by omega
  have hmb0 : m < W0.heap.size := by omega
  have HB0 := Lib.hid ((HP3.out.keep hb0).below)
  have hQ : ∀ i, BN ≤ i → ¬ (i = pb ∨ i = m) := fun i hi hq => by omega
  have HUND : Hid (∀ W, Only (fun i => i = pb ∨ i = m) W0 W → Below w0.heap.size w0 W) := Lib.hid fun W hW => Only.under HB0.out (by omega) hW (fun i hi => by omega)
  have KL := Lib.hid (fun k (hk : k < l.length) => laidFlat_any (Q := fun i => i = pb ∨ i = m) HR.out hN hQ (fun W hW i hi => (HOK.out i hi).below (HUND.out W hW)) k hk)
  unfold LaidC at KL
  have KTI := Lib.hid (fun W (hb : Below w0.heap.size w0 W) k (hk : k < l.length) => implTextIn_any bi oi l.length c k l W (tabs_kept HT.out hb) (HI.out.below hb) HC.out hk (in_small HC.out))
  unfold TxtRes at KTI
  obtain ⟨M, hM⟩ : ∃ M, KNN 0 = M := ⟨_, rfl⟩
  obtain ⟨ka, hka⟩ : ∃ ka, KA 0 = ka := ⟨_, rfl⟩
  obtain ⟨kc, hkc⟩ : ∃ kc, KC 0 = kc := ⟨_, rfl⟩
  obtain ⟨hkn, _⟩ := hN.kidAt (k := 0) (by omega)
  have HKN := Lib.hid hkn
  rw [hM] at p2 HKN
  rw [hka, hkc] at p2
  have HM := Lib.hid hM
  have HKA := Lib.hid hka
  have HN := Lib.hid (fun W (hW : Only (fun i => i = pb ∨ i = m) W0 W) => hN.only hW hQ)
  have ST0 : Hid (∃ D, InSt w0 W0 W0 l pb m 0 1 p [] D none 0 0 rr) := Lib.hid (by
    obtain ⟨D, hD⟩ := HMA.out
    refine ⟨D, HP3.out.keep hb0, hD.below hb0, ⟨fun _ => none, fun _ => 0, fun _ => 0, ?_⟩, Only.refl _, laid_start HR.out (by omega), Nat.le_refl _, HRR0.out⟩
    rw [HMO.out]
    have hg := GrowOff.nil W0 W0.heap.size (fun _ => False)
    exact ⟨by have := World.ownsRow_nil W0 W0.heap.size 54 5; exact this, fun i hi => by simp at hi, fun i hi => by simp at hi, fun i j hi => by simp at hi⟩)
  clear hM hka hkc hkn hN hat hb0 hQ KN HMA HP3 HRR0 HMO
  have hm40 : M ≤ 40 := by have h1 := kidsUp_len l l.length 0; have h2 := HLEN.out.2; have h3 := HKN.out; omega
  go_wp2
  go_loopw [27] (fun i wr => ∃ (j x : Nat) (q : Pr) (sn : List ByteArray) (D : DataW Unit) (a : Option Addr) (n cc : Nat), i = .int .i64 (j : Int) ∧ j ≤ M ∧ InSt w0 W0 wr l pb m j x q sn D a n cc rr) (fun i _ => M - (intOf i).toNat)
  case atStart =>
    obtain ⟨D, hD⟩ := ST0.out
    exact ⟨0, 1, p, [], D, none, 0, 0, rfl, Nat.zero_le _, hD⟩
  case round =>
    clear ST0 d0 p2
    obtain ⟨j, x, q, sn, D, a, n, cc, rfl, hj, hst⟩ := hrel
    have HST := Lib.hid hst
    have hwr : W0.heap.size ≤ wr.heap.size := hst.on.size
    by_cases hjm : j < M
    · have hjk : j < (kidsUp l l.length 0).length := by have := HKN.out; omega
      obtain ⟨x1, x2, x3, x4, x5, x6, x7, x8, x9⟩ := laid_more HR.out (by omega) hst.at_ hjk
      have hNR := HN.out wr hst.on
      have hrow := (hNR.kidAt (k := 0) (by omega)).2
      rw [HM.out, HKA.out] at hrow
      obtain ⟨g, rfl, hgl, hcs⟩ := hrow.resolve_left (by omega)
      have e1 := (hcs j hjm).1
      rw [x4] at e1
      unfold ptrN at e1
      have d1 := hNR.c0 x x2
      have d2 := hNR.c1 x x2
      unfold partV at d1
      have hok := (HOK.out x x2).below (hst.mt.below)
      have hR0 := HR.out
      have hdp : dp l x = 1 := by rw [x6, hR0.first]; rfl
      have HSTEP := Lib.hid (fun t ht => hst.step hR0 hjk x4 (t := t) ht)
      have HSTOP := Lib.hid (fun ht => hst.stop hR0 hjk x4 ht)
      have HX5 := Lib.hid x5
      have q0 : (j : Int) < (M : Int) := by omega
      have hty := isText_yes
      have htn := isText_no
      have hey := isElem_yes
      clear hNR hrow hcs hst hR0 x1 x3 x4 x5 x6 x8 x9
      cases hne : (l.getD x dIt).name.toList.isEmpty
      · rw [hne, if_neg (by simp)] at d1
        have c2 := ((below1 wr (.cells #[.pointer (some ⟨bi, oi + x * 5, none⟩)] 88)).cell (p := ⟨bi, oi + x * 5 + 2, none⟩) hok.is.lt).trans hok.is.c2
        have c3 := hok.is.c3
        obtain ⟨a4, n4, c4, hc4, hnil4, hat4⟩ := hok.cap
        have hl4 := hat4.len
        have hm4 : n4 ≤ 9223372036854775807 := hat4.max
        by_cases hsp : (l.getD x dIt).space.toList = csL
        case neg =>
          have HKO := Lib.hid (HSTEP.out _ (kidOne_other (sn := sn) (p := q) hne hsp))
          have hs2 : ((l.getD x dIt).space.toList == [106, 97, 98, 98, 101, 114, 58, 99, 108, 105, 101, 110, 116]) = false := by unfold csL at hsp; simpa using hsp
          have HST4 := Lib.hid (HST.out.below (below1 wr (.cells #[.pointer (some ⟨bi, oi + x * 5, none⟩)] 88)))
          obtain ⟨A, N, C, hg⟩ := HST4.out.more
          have HG := Lib.hid hg
          have hml : (movedTo l x (endL l x) (-1)).length = endL l x - x := movedTo_length l x (endL l x) (-1)
          have hel := (endL_bounds x2).2
          have hfw := HST.out.few
          have hl40 := HLEN.out.2
          have KK := Lib.hid (KL.out x x2 W0.heap.size _ a n cc q.more A N C 0 (Nat.le_refl _) (by simp; omega) (by omega) (by omega) (by omega) HST4.out.on hg)
          rw [show (0 : Int) - dp l x = -1 by omega] at KK
          unfold GrownRes at KK
          have HX7 : Hid (x + (movedTo l x (endL l x) (-1)).length ≤ endL l x) := Lib.hid (by omega)
          generalize movedTo l x (endL l x) (-1) = l2 at HKO KK HX7
          have z6 := HST4.out.mt.is.c6
          clear hg hml hel hfw hl40 hat4 hok HSTEP HSTOP hsp c3 hc4 hl4 hm4 hnil4 hdp
          generalize l.getD x dIt = y at c2 hs2
          go_wp2_with fail
          refine KK.out.mono ?_
          rintro e w8 ⟨a8, n8, c8, A8, N8, C8, rfl, hg8, hgr8, hat8⟩
          have hlts := HG.out.lts.1
          have hmt8 := HST4.out.mt.only (Only.grown hgr8) (fun e => by have := hlts pb e.symm; omega) (fun i hi => by have := hlts i hi.symm; omega)
          have z68 := hmt8.is.c6
          have y68 := hmt8.fz 6
          have HG8 := Lib.hid hg8
          have HGR8 := Lib.hid hgr8
          clear hg8 hgr8 hat8 hlts hmt8 z6 c2 KK
          go_wp2
          go_roundw
          case rel => exact ⟨j + 1, endL l x, _, sn, D, a8, n8, c8, by go_num, by omega, HST4.out.moved hpb0 hmb0 (by omega) HG8.out HGR8.out HX5.out HX7.out HKO.out⟩
          case measure => simp [intOf]; omega
        have hsn : ¬ (l.getD x dIt).space.toList ≠ csL := fun h => h hsp
        have hs2 : ((l.getD x dIt).space.toList == [106, 97, 98, 98, 101, 114, 58, 99, 108, 105, 101, 110, 116]) = true := by unfold csL at hsp; simpa using hsp
        obtain ⟨hin1, hin2⟩ := in_text HC.out x2
        have HST4 := Lib.hid (HST.out.below (below1 wr (.cells #[.pointer (some ⟨bi, oi + x * 5, none⟩)] 88)))
        have KT := Lib.hid (KTI.out _ HST4.out.mt.below x x2)
        rw [hin1, hin2] at KT
        have HLE := Lib.hid (fun t ht => textL_size HC.out x2 (t := t) ht)
        have HA : Hid (n4 ≠ 0 → rr = none) := Lib.hid fun h => HSTOP.out (kidOne_none hsn (partP_attrs (by omega)))
        have HB : Hid (textL l x = none → rr = none) := Lib.hid fun h => HSTOP.out (kidOne_none hsn (partP_none h))
        have HCN : Hid ((l.getD x dIt).name ∉ leftT partTs sn → rr = none) := Lib.hid fun h => HSTOP.out (kidOne_no hsn h)
        have HCY : Hid (n4 = 0 → ∀ t, textL l x = some t → (l.getD x dIt).name ∈ leftT partTs sn → kidOne l x (sn, q) = match partOne (l.getD x dIt).name t q with | some q => some (sn ++ [(l.getD x dIt).name], q) | none => none) := Lib.hid fun h t ht hin => by
          rw [kidOne_yes hne hsn hin, partP_some ht (by omega)]
          cases partOne (l.getD x dIt).name t q <;> rfl
        have hsz := hok.is.size.2.2
        clear hin1 hin2 hsn hsp hok hnil4 hat4 hl4 hdp HKA
        generalize textL l x = tl at KT HLE HB HCY
        obtain ⟨cd, hcd⟩ : ∃ cd : Int, (if tl.isSome then 0 else 1) = cd := ⟨_, rfl⟩
        obtain ⟨tt, htt⟩ : ∃ tt, txtT tl = tt := ⟨_, rfl⟩
        rw [hcd, htt] at KT
        have HCD := Lib.hid hcd
        have HTT := Lib.hid htt
        clear hcd htt
        have d2 := ((below1 wr (.cells #[.pointer (some ⟨bi, oi + x * 5, none⟩)] 88)).cell (World.block_lt_of_cell? _ _ d2)).trans d2
        have hbiw : bi < wr.heap.size := World.block_lt_of_cell? _ _ hc4
        generalize l.getD x dIt = y at c2 c3 hs2 HCN HCY hsz
        obtain ⟨yd, yt, ys, yn, ya⟩ := y
        dsimp only at c2 c3 hs2 HCN HCY hsz
        go_wp2_with fail
        refine KT.out.mono ?_
        rintro e w5 ⟨rfl, hb5⟩
        have hbe := below_then hb5 (below1 w5 (.cells #[.int .i64 cd, .string tt] 42))
        have hbw := below_then (below1 wr (.cells #[.pointer (some ⟨bi, oi + x * 5, none⟩)] 88)) hbe
        have HST6 := Lib.hid (HST4.out.below hbe)
        have E0 := Lib.hid ((hbe.cell (p := ⟨wr.heap.size, 0, none⟩) (by simp)).trans (show _ = some (Value.pointer (some ⟨bi, oi + x * 5, none⟩)) by simp))
        have E4 := Lib.hid ((hbw.cell (p := ⟨bi, oi + x * 5 + 4, none⟩) hbiw).trans hc4)
        have E3 := Lib.hid ((hbw.cell (p := ⟨bi, oi + x * 5 + 3, none⟩) hbiw).trans c3)
        have hw5 : wr.heap.size < w5.heap.size := by have := hb5.size; simp at this; omega
        clear hbe hbw hb5 c2 c3 hc4 d1 d2 KT HST4 HST
        have E1 := Lib.hid (show (w5.alloc (.cells #[.int .i64 cd, .string tt] 42)).cell? ⟨w5.heap.size, 0, none⟩ = some (.int .i64 cd) by simp)
        have E2 := Lib.hid (show (w5.alloc (.cells #[.int .i64 cd, .string tt] 42)).cell? ⟨w5.heap.size, 1, none⟩ = some (.string tt) by simp)
        go_upto_region 14 with fail
        generalize w5.alloc (.cells #[.int .i64 cd, .string tt] 42) = W6 at HST6 E0 E1 E2 E3 E4 ⊢
        have e0 := E0.out
        have f1 := E1.out
        have e2 := E2.out
        have e3 := E3.out
        have e4 := E4.out
        by_cases h4 : n4 = 0
        case neg =>
          have hrn := HA.out h4
          have HRN := Lib.hid hrn
          have q4 : (0 : Int) < (n4 : Int) := by omega
          have q5 : decide ((0 : Int) < (n4 : Int)) = true := decide_eq_true q4
          have q6 : decide (0 < n4) = true := decide_eq_true (by omega)
          clear hrn HA HB HCN HCY HSTEP HSTOP KL KTI
          go_quiet (fail)
          go_wp2
          go_ret
          exact inside_no (HST6.out.mt.keep (below_drewN (Below.refl _ _) _)) HRN.out
        cases tl with
        | none =>
          obtain rfl : cd = 1 := HCD.out.symm
          have hrn := HB.out rfl
          have HRN := Lib.hid hrn
          have q4 : ¬ (0 : Int) < (n4 : Int) := by omega
          clear hrn HA HB HCN HCY HSTEP HSTOP KL KTI
          go_quiet (fail)
          go_wp2
          go_ret
          exact inside_no (HST6.out.mt.keep (below_drewN (Below.refl _ _) _)) HRN.out
        | some t =>
          obtain rfl : cd = 0 := HCD.out.symm
          obtain rfl : t = tt := HTT.out
          have h60 := HLE.out t rfl
          have q4 : ¬ (0 : Int) < (n4 : Int) := by omega
          have HST7 := Lib.hid (HST6.out.below (Below.refl W6.heap.size W6).drew)
          have hS0 : W6.drew.cell? ⟨wr.heap.size, 0, none⟩ = some (.pointer (some ⟨bi, oi + x * 5, none⟩)) ∧ W6.drew.cell? ⟨bi, oi + x * 5 + 4, none⟩ = some (.slice a4 n4 c4) ∧ W6.drew.cell? ⟨w5.heap.size, 0, none⟩ = some (.int .i64 0) ∧ W6.drew.cell? ⟨bi, oi + x * 5 + 3, none⟩ = some (.string yn) ∧ W6.drew.cell? ⟨w5.heap.size, 1, none⟩ = some (.string t) := ⟨e0, e4, f1, e3, e2⟩
          have hP1 : ¬ (wr.heap.size = pb ∨ wr.heap.size = m) := by omega
          have hP2 : ¬ (bi = pb ∨ bi = m) := by omega
          have hP3 : ¬ (w5.heap.size = pb ∨ w5.heap.size = m) := by omega
          clear e0 f1 e2 e3 e4
          by_cases hin : yn ∈ leftT partTs sn
          · have KM := Lib.hid (meet_part (nm := yn) (t := t) (leftT_mem.1 hin).1 (by unfold maxLen; omega) (by omega) ea eb pb m q a n cc D (leftT partTs sn) w0 W6.drew HE.out HPW.out HST7.out.mt HST7.out.may hin)
            have HKY := Lib.hid (HCY.out h4 t rfl hin)
            clear HA HB HCN HCY KL KTI hin
            go_region_held3 (fun W => W.cell? ⟨wr.heap.size, 0, none⟩ = some (.pointer (some ⟨bi, oi + x * 5, none⟩)) ∧ W.cell? ⟨bi, oi + x * 5 + 4, none⟩ = some (.slice a4 n4 c4) ∧ W.cell? ⟨w5.heap.size, 0, none⟩ = some (.int .i64 0) ∧ W.cell? ⟨bi, oi + x * 5 + 3, none⟩ = some (.string yn) ∧ W.cell? ⟨w5.heap.size, 1, none⟩ = some (.string t)) (first | assumption | exact held5o ho7 hP1 hP2 hP3 hP2 hP3 (by assumption))
              (first
                | (go_at_call 71; refine KM.out.mono ?_; rintro e w7 ⟨bb, rfl, hmet, ho7⟩))
            obtain ⟨q2, D2, hm2, hd2, h1, h2⟩ := hmet
            rw [leftT_next] at hd2
            have HM2 := Lib.hid hm2
            have HD2 := Lib.hid hd2
            have HH1 := Lib.hid h1
            have HH2 := Lib.hid h2
            have HO7 := Lib.hid ho7
            clear hm2 hd2 h1 h2 ho7 hS0 KM
            cases bb
            · have HRN := Lib.hid (HSTOP.out (by rw [HKY.out, HH2.out rfl]))
              clear HSTEP HSTOP
              go_wp2
              go_ret
              exact inside_no HM2.out HRN.out
            · have HRN := Lib.hid (HSTEP.out (sn ++ [yn], q2) (by rw [HKY.out, HH1.out rfl]))
              clear HSTEP HSTOP
              go_wp2
              go_roundw
              case rel => exact ⟨j + 1, endL l x, q2, sn ++ [yn], D2, a, n, cc, by go_num, by omega, HST7.out.part hpb0 hmb0 HM2.out HD2.out HO7.out (partOne_more (HH1.out rfl)) HX5.out x7 HRN.out⟩
              case measure => simp [intOf]; omega
          · have KM := Lib.hid (meet_no pb m 3 D (leftT partTs sn) partG yn t W6.drew (by unfold maxLen; omega) HST7.out.may.own HST7.out.may.may hin)
            have HRN := Lib.hid (HCN.out hin)
            clear HA HB HCN HCY KL KTI hin HSTEP HSTOP
            go_region_held3 (fun W => W.cell? ⟨wr.heap.size, 0, none⟩ = some (.pointer (some ⟨bi, oi + x * 5, none⟩)) ∧ W.cell? ⟨bi, oi + x * 5 + 4, none⟩ = some (.slice a4 n4 c4) ∧ W.cell? ⟨w5.heap.size, 0, none⟩ = some (.int .i64 0) ∧ W.cell? ⟨bi, oi + x * 5 + 3, none⟩ = some (.string yn) ∧ W.cell? ⟨w5.heap.size, 1, none⟩ = some (.string t)) (first | assumption)
              (first
                | (go_at_call 71; refine KM.out.mono ?_; rintro e w7 ⟨rfl, rfl⟩))
            go_wp2
            go_ret
            exact inside_no HST7.out.mt HRN.out
      · rw [hne, if_pos rfl] at d1
        have HN0 := Lib.hid (HSTOP.out (kidOne_text hne))
        clear HSTEP HSTOP hok
        go_wp2
        go_ret
        exact inside_no (HST.out.mt.keep (below1 _ _)) HN0.out
    · obtain rfl : j = M := by omega
      have hres := HST.out.res
      rw [← HKN.out, Nat.sub_self] at hres
      go_wp2
      go_ret
      exact inside_yes HST.out (by have := HMW.out; omega) hres
end Go.Proofs.YtjkmgpomcnplnaaGreatDoor
