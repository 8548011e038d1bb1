/- Texts laid together, part 4. -/
import Derived.Test.YtbfjhjkllaceaaaGreatDoorGB3
import Derived.Deep.AppendLies
import Derived.Maps.AppendAt

/- The model's reader of frames: strings. -/
namespace Go.Proofs.YtbfjhjkllaceaaaGreatDoor
open Go.ChangeShapes Go.WideShapes Go.ChangeAt Go.RowKit
set_option linter.unusedVariables false

/-- texts are read, so many -/
def rdS : Nat → Int → Rd → List ByteArray → Rd × List ByteArray
  | 0, _, r, ts => (r, ts)
  | f + 1, n, r, ts => if 0 < n ∧ r.bad = false then (if ssz r.xs = 0 then (⟨r.xs, true⟩, ts) else rdS f (n - 1) ⟨r.xs.drop (ssz r.xs).toNat, false⟩ (ts ++ [stxt r.xs])) else (r, ts)
theorem rdS_stop {f : Nat} {n : Int} {r : Rd} {ts : List ByteArray} (h : ¬ (0 < n ∧ r.bad = false)) : rdS f n r ts = (r, ts) := by
  cases f with
  | zero => rfl
  | succ f => unfold rdS; rw [if_neg h]
theorem rdS_bad {f : Nat} {n : Int} {r : Rd} {ts : List ByteArray} (h : 0 < n ∧ r.bad = false) (h0 : ssz r.xs = 0) : rdS (f + 1) n r ts = (⟨r.xs, true⟩, ts) := by unfold rdS; rw [if_pos h, if_pos h0]
theorem rdS_go {f : Nat} {n : Int} {r : Rd} {ts : List ByteArray} (h : 0 < n ∧ r.bad = false) (h0 : ssz r.xs ≠ 0) : rdS (f + 1) n r ts = rdS f (n - 1) ⟨r.xs.drop (ssz r.xs).toNat, false⟩ (ts ++ [stxt r.xs]) := by
  conv => lhs; unfold rdS
  rw [if_pos h, if_neg h0]
def lenAt (w : World) (b : Nat) : Nat := match w.cell? ⟨b, 0, none⟩ with | some (.slice _ n _) => n | _ => 0
theorem lenAt_is {w : World} {b : Nat} {a : Option Addr} {n c : Nat} (h : w.cell? ⟨b, 0, none⟩ = some (.slice a n c)) : lenAt w b = n := by unfold lenAt; rw [h]
theorem ssz_bd {xs : List Int} (h : ssz xs ≠ 0) : 1 ≤ ssz xs ∧ ssz xs ≤ xs.length ∧ sOk xs = true := by
  cases hs : sOk xs
  · exact absurd (s_none hs).2 h
  · have h1 := (s_some hs).2
    unfold sOk at hs
    simp only [Bool.and_eq_true, decide_eq_true_eq] at hs
    have h2 := (vreadN_bd xs).1
    have h3 : vreadK xs = lead xs + 1 := by unfold vreadK; rw [hs.1]; rfl
    refine ⟨by omega, by omega, rfl⟩

/-- the list's row is newer than w -/
def NewL (w wr : World) (b : Nat) : Prop := ∀ a n c, wr.cell? ⟨b, 1, none⟩ = some (.slice a n c) → ∀ g, (Value.slice a n c).ownBlock = some g → w.heap.size ≤ g
theorem grown_of_alloc {w w' : World} {o : Obj} {r : Option Nat} (h : (w.alloc o).grownBy w' r) : w.grownBy w' r := (World.grownBy_alloc w o r).trans h
/-- the list has one more -/
theorem RdAt.putList {w0 w w' : World} {b : Nat} {r : Rd} {ts ts2 : List ByteArray} {o : Obj} {aL : Option Addr} {nL cL : Nat} {a4 : Option Addr} {n4 c4 : Nat} (h : RdAt w0 w b r ts) (hne : (Value.slice aL nL cL).ownBlock ≠ some b)
    (hold : w.ownsRow w0.heap.size 9 1 (.slice aL nL cL) nL (ts.map Value.string)) (hnew : w'.ownsRow w0.heap.size 9 1 (.slice a4 n4 c4) n4 (ts2.map Value.string)) (hg : (w.alloc o).grownBy w' (Value.slice aL nL cL).ownBlock)
    (hat : (Value.slice a4 n4 c4).ownBlock = (Value.slice aL nL cL).ownBlock ∨ (Value.slice a4 n4 c4).ownBlock = some (w.alloc o).heap.size) : RdAt w0 (w'.setCell ⟨b, 1, none⟩ (.slice a4 n4 c4)) b r ts2 := by
  have ha := h.keep (below1 w o)
  obtain ⟨a, n, c, h1, h2, h3⟩ := ha.c0
  obtain ⟨a', n', c', g1, g2, g3⟩ := ha.c1
  have hlt := ha.lt
  have hne' : some b ≠ (Value.slice aL nL cL).ownBlock := Ne.symm hne
  have hne4 : (Value.slice a4 n4 c4).ownBlock ≠ some b := by
    rcases hat with e | e
    · rw [e]; exact hne
    · rw [e]
      intro e2
      simp only [Option.some.injEq] at e2
      omega
  have hlt' : b < w'.heap.size := Nat.lt_of_lt_of_le hlt hg.size
  have k0 := hg.cell (a := ⟨b, 0, none⟩) h1 hne'
  have k1 := hg.cell (a := ⟨b, 1, none⟩) g1 hne'
  have k2 := hg.cell (a := ⟨b, 2, none⟩) ha.c2 hne'
  have z0 := (hg.frozen_far ⟨b, 0, none⟩ hlt hne').trans ha.f0
  have z1 := (hg.frozen_far ⟨b, 1, none⟩ hlt hne').trans ha.f1
  have z2 := (hg.frozen_far ⟨b, 2, none⟩ hlt hne').trans ha.f2
  have hb : Below w0.heap.size w0 w' := ha.below.grown hg ha.below.size (fun k hk => (hold.lt k hk).1)
  exact ⟨by simpa using hlt', h.ge, below_setW hb h.ge, h.byte, ⟨a, n, c, set_oth (by decide) k0, h2, h3⟩, ⟨a4, n4, c4, set_at k1, row_kept hnew (grown_set _ _ _) hne4, hne4⟩, set_oth (by decide) k2, by rw [World.frozen?_setCell]; exact z0, by rw [World.frozen?_setCell]; exact z1, by rw [World.frozen?_setCell]; exact z2⟩

set_option maxRecDepth 100000 in
set_option maxHeartbeats 3200000 in
theorem strings_any (w0 : World) (b : Nat) (r : Rd) (w : World) (h : RdAt w0 w b r []) (hnil : w.cell? ⟨b, 1, none⟩ = some (.slice none 0 0)) (hl : r.xs.length ≤ 3000) :
    Calls Tryz.prog 42 #[.pointer (some ⟨b, 0, none⟩)] w fun e w' =>
      e = .returned (.tuple #[]) ∧ RdAt w0 w' b (rdS (r.xs.length + 1) (numV r) (numR r) []).1 (rdS (r.xs.length + 1) (numV r) (numR r) []).2 ∧ w.grownBy w' (some b) := by
  obtain ⟨i0, hi, hz0, hz1, hz2⟩ := info_parts strInfo
  have KN := Lib.hid (number_any w0 b r [] w h)
  unfold NumRes at KN
  have hbd := numV_bd r
  have hln : (numR r).xs.length ≤ r.xs.length := by
    unfold numR
    split
    · exact Nat.le_refl _
    · simp
  generalize numV r = v at KN hbd ⊢
  generalize numR r = r1 at KN hln ⊢
  generalize hF : rdS (r.xs.length + 1) v r1 [] = F
  have HF := Lib.hid hF
  have HLN := Lib.hid hln
  have HL := Lib.hid hl
  generalize r.xs.length = L at *
  clear hF h hln
  go_enter Tryz.func42, Tryz.ntmps42
  go_wp2_with fail
  refine KN.out.mono ?_
  rintro e w1 ⟨rfl, h1, hg1, hx1⟩
  have HNL : Hid (NewL w w1 b) := Lib.hid (by
    intro a n c hc g hg
    rw [hx1, hnil] at hc
    cases hc
    simp [Value.ownBlock] at hg)
  have H1 := Lib.hid h1
  have HG1 := Lib.hid hg1
  clear h1 hg1 hx1 hnil
  go_wp2
  go_loopw [2] (fun v wr => ∃ (f : Nat) (n : Int) (r' : Rd) (ts' : List ByteArray), v = .int .i64 n ∧ (0 ≤ n ∧ n ≤ 9223372036854775807) ∧ r'.xs.length < f ∧ Hid (rdS f n r' ts' = F) ∧ ts'.length + r'.xs.length ≤ L ∧ RdAt w0 wr b r' ts' ∧ w.grownBy wr (some b) ∧ NewL w wr b) (fun _ wr => lenAt wr b)
  case atStart => exact ⟨L + 1, v, r1, [], rfl, hbd, by have := HLN.out; omega, HF, by have := HLN.out; simp; omega, H1.out, HG1.out, HNL.out⟩
  case round =>
    obtain ⟨f, n, r', ts', rfl, hn, hf, HE, htl, hR, hG, hNL⟩ := hrel
    have HR := Lib.hid hR
    have HG := Lib.hid hG
    obtain ⟨a0, n0, c0, q0, hn0, hrow⟩ := hR.c0
    obtain ⟨aL, nL, cL, q1, hown, hne⟩ := hR.c1
    have hnew := hNL _ _ _ q1
    have HNW := Lib.hid hnew
    clear hnew hNL
    have q2 := hR.c2
    have f0 := hR.f0
    have f1 := hR.f1
    have f2 := hR.f2
    have hlt := hR.lt
    have HLA := Lib.hid (lenAt_is q0)
    clear hG
    by_cases hn1 : 0 < n
    · cases hbad : r'.bad
      · rw [hbad] at q2
        obtain ⟨f', rfl⟩ : ∃ f', f = f' + 1 := ⟨f - 1, by omega⟩
        have KT := Lib.hid (l2Text_any a0 n0 c0 r'.xs wr hn0 (hrow.below hR.below) hR.byte)
        unfold TextRes at KT
        have HB := Lib.hid hbad
        by_cases hs : ssz r'.xs = 0
        · have hF := HE.out
          rw [rdS_bad ⟨hn1, hbad⟩ hs] at hF
          have HF2 := Lib.hid hF
          rw [hs] at KT
          generalize stxt r'.xs = T at KT
          clear hR hrow hown hF hs hbad hn0
          go_wp2_with fail
          refine KT.out.mono ?_
          rintro e w2 ⟨rfl, hb2⟩
          have H2 := Lib.hid (HR.out.keep hb2)
          have HB2 := Lib.hid hb2
          have g2 := (hb2.cell (p := ⟨b, 2, none⟩) hlt).trans q2
          have e2 := H2.out.f2
          have hlt2 := H2.out.lt
          clear hb2 q0 q1 q2
          go_wp2
          rw [← HF2.out]
          exact bodyPost_ret (v := .tuple #[]) (by simp [results, Tryz.results42, go_sem]) rfl ⟨rfl, H2.out.setBad true, grown_trans' HG.out (grown_trans' (grown_below HB2.out) (grown_set _ _ _))⟩
        · obtain ⟨s1, s2, hok⟩ := ssz_bd hs
          have hF := HE.out
          rw [rdS_go ⟨hn1, hbad⟩ hs] at hF
          have HF2 := Lib.hid hF
          obtain ⟨k, hk⟩ : ∃ k : Nat, ssz r'.xs = k := ⟨(ssz r'.xs).toNat, by omega⟩
          rw [hk] at KT HF2 s1 s2
          rw [Int.toNat_natCast] at HF2
          have hvo : vreadOk r'.xs = true := by
            unfold sOk at hok
            rw [Bool.and_eq_true] at hok
            exact hok.1
          obtain ⟨rb, ro, rfl⟩ := row_some hrow hvo
          have hcap : n0 ≤ c0 ∧ c0 ≤ maxLen ∧ rb < w0.heap.size := by
            rcases hrow with ⟨hv, _⟩ | ⟨b', o', cap, hv, g1, g2, g3, g4⟩
            · cases hv
            · simp only [Value.slice.injEq, Option.some.injEq, Addr.mk.injEq] at hv
              obtain ⟨⟨rfl, rfl, _⟩, hn', rfl⟩ := hv
              exact ⟨by omega, g2, g3⟩
          obtain ⟨hnc, hcm, hrb⟩ := hcap
          have hkn : k ≤ n0 := by omega
          have hk1 : 1 ≤ k := by omega
          have HDR := Lib.hid (getD_drop hR.byte k)
          have HLD : Hid (n0 - k = (r'.xs.drop k).length) := Lib.hid (by rw [List.length_drop, hn0])
          have HPC : Hid (Row w0 .u8 (.slice (some ⟨rb, ro + k, none⟩) (n0 - k) (c0 - k)) (r'.xs.drop k)) := Lib.hid (by
            have := hrow.piece k (n0 - k) (by omega)
            rwa [List.take_of_length_le (by rw [List.length_drop]; omega)] at this)
          have HPE : Hid (c0 = k → Row w0 .u8 (.slice (some ⟨rb, ro, none⟩) 0 0) (r'.xs.drop k)) := Lib.hid (fun hc => by
            have hz : r'.xs.drop k = [] := List.drop_eq_nil_of_le (by omega)
            rw [hz]
            exact Row.empty (by decide) hrb)
          have hnL : nL ≤ 3000 := by have h1 := ownsS_length hown; have := HL.out; omega
          have HLL := Lib.hid (ownsS_length hown)
          have HTL : Hid ((ts' ++ [stxt r'.xs]).length + (r'.xs.drop k).length ≤ L) := Lib.hid (by rw [List.length_append, List.length_drop]; simp; omega)
          have hfl : (r'.xs.drop k).length < f' := by rw [List.length_drop]; omega
          have HFL := Lib.hid hfl
          have hcm2 := hcm
          unfold maxLen at hcm2
          have hn00 : n0 ≤ 3000 := by have := HL.out; omega
          have hk0 : ((k : Int) == 0) = false := by rw [beq_eq_false_iff_ne]; omega
          generalize stxt r'.xs = T at KT HF2 HTL
          generalize r'.xs.drop k = ys at *
          clear hR hrow hF hs hbad hn0 hok hvo s1 s2 hk hfl htl hf
          by_cases hkc : k < c0
          · go_wp2_with fail
            refine KT.out.mono ?_
            rintro e w2 ⟨rfl, hb2⟩
            have H2 := Lib.hid (HR.out.keep hb2)
            have HB2 := Lib.hid hb2
            have g0 := (hb2.cell (p := ⟨b, 0, none⟩) hlt).trans q0
            have g1 := (hb2.cell (p := ⟨b, 1, none⟩) hlt).trans q1
            have g2 := (hb2.cell (p := ⟨b, 2, none⟩) hlt).trans q2
            have e0 := H2.out.f0
            have e1 := H2.out.f1
            have hlt2 := H2.out.lt
            have H3 := Lib.hid (H2.out.setXs ys _ _ _ HDR.out HLD.out HPC.out)
            have HO2 := Lib.hid (row_kept (owns_below hown hb2) (grown_set w2 ⟨b, 0, none⟩ (.slice (some ⟨rb, ro + k, none⟩) (n0 - k) (c0 - k))) hne)
            clear hb2 q0 q1 q2
            go_wp2_with (at_builtin; refine wpList_append_own_at _ rfl _ _ 33 rfl w0.heap.size 9 i0 (.string ByteArray.empty) 1 16 Tryz.underlying33 hi hz0 hz1 hz2 rfl (by decide) _ nL _ rfl (HO2.out.alloc _) ⟨w2.heap.size, 0, none⟩ 1 1 [.string T] rfl rfl ?c1 ?c2 ?c3 ?c4 ?c5 ?_)
            case c1 => exact fun j u hj => by have := strCells1 (w2.setCell ⟨b, 0, none⟩ (.slice (some ⟨rb, ro + k, none⟩) (n0 - k) (c0 - k))) T j u hj; simpa using this
            case c2 => intro v hv; simp at hv; subst hv; rfl
            case c3 => unfold maxLen; omega
            case c4 => omega
            case c5 => have := H2.out.below.size; simp; omega
            intro v' w3 hown' hgrow _ hat
            obtain ⟨a4, c4, rfl⟩ := owns_slice hown'
            have hown' : w3.ownsRow w0.heap.size 9 1 (.slice a4 (nL + 1) c4) (nL + 1) ((ts' ++ [T]).map Value.string) := by rw [List.map_append]; exact hown'
            have H4 := Lib.hid (H3.out.putList hne HO2.out hown' hgrow (by simpa using hat))
            have h3s := hgrow.size
            simp at h3s
            have p1 := hgrow.cell (a := ⟨b, 1, none⟩) (v := .slice aL nL cL) (by go_simp) (Ne.symm hne)
            have pf := hgrow.frozen_far ⟨b, 1, none⟩ (by simp; omega) (Ne.symm hne)
            have pf1 : w3.frozen? ⟨b, 1, none⟩ = false := by rw [pf]; refine ((below1 _ _).frozen (by simpa using hlt2)).trans ?_; rw [World.frozen?_setCell]; exact e1
            have hlt3 : b < w3.heap.size := by omega
            have HG3 := Lib.hid (grown_trans' HG.out (grown_trans' (grown_below HB2.out) (grown_set w2 ⟨b, 0, none⟩ (.slice (some ⟨rb, ro + k, none⟩) (n0 - k) (c0 - k)))))
            have HLS : Hid (lenAt (w3.setCell ⟨b, 1, none⟩ (.slice a4 (nL + 1) c4)) b = (n0 - k)) := Lib.hid (by obtain ⟨x1, x2, x3, x4, x5, _⟩ := H4.out.c0; rw [lenAt_is x4, x5, ← HLD.out])
            have hws : w.heap.size ≤ w2.heap.size := Nat.le_trans HG.out.size HB2.out.size
            have HNL2 : Hid (NewL w (w3.setCell ⟨b, 1, none⟩ (.slice a4 (nL + 1) c4)) b) := Lib.hid (by
              intro a n c hc g hg
              rw [set_at p1] at hc
              cases hc
              rcases hat with e | e
              · exact HNW.out g (e ▸ hg)
              · rw [e] at hg
                simp at hg
                omega)
            have HGR := Lib.hid (grown_of_alloc hgrow)
            clear hown' hgrow hat pf
            go_wp2
            go_roundw
            case rel => exact ⟨f', n - 1, ⟨ys, false⟩, ts' ++ [T], by go_num, by omega, HFL.out, HF2, HTL.out, by have := H4.out; rwa [HB.out] at this, grown_trans' (grown_mix HG3.out HGR.out (fun g hg => HNW.out g hg)) (grown_set _ _ _), HNL2.out⟩
            case measure => rw [HLS.out, HLA.out]; omega
          · obtain rfl : c0 = k := by omega
            obtain rfl : n0 = c0 := by omega
            have HPE2 := Lib.hid (HPE.out rfl)
            have hnn : n0 - n0 = 0 := by omega
            rw [hnn] at HLD
            go_wp2_with fail
            refine KT.out.mono ?_
            rintro e w2 ⟨rfl, hb2⟩
            have H2 := Lib.hid (HR.out.keep hb2)
            have HB2 := Lib.hid hb2
            have g0 := (hb2.cell (p := ⟨b, 0, none⟩) hlt).trans q0
            have g1 := (hb2.cell (p := ⟨b, 1, none⟩) hlt).trans q1
            have g2 := (hb2.cell (p := ⟨b, 2, none⟩) hlt).trans q2
            have e0 := H2.out.f0
            have e1 := H2.out.f1
            have hlt2 := H2.out.lt
            have H3 := Lib.hid (H2.out.setXs ys _ _ _ HDR.out HLD.out HPE2.out)
            have HO2 := Lib.hid (row_kept (owns_below hown hb2) (grown_set w2 ⟨b, 0, none⟩ (.slice (some ⟨rb, ro, none⟩) 0 0)) hne)
            clear hb2 q0 q1 q2
            go_wp2_with (at_builtin; refine wpList_append_own_at _ rfl _ _ 33 rfl w0.heap.size 9 i0 (.string ByteArray.empty) 1 16 Tryz.underlying33 hi hz0 hz1 hz2 rfl (by decide) _ nL _ rfl (HO2.out.alloc _) ⟨w2.heap.size, 0, none⟩ 1 1 [.string T] rfl rfl ?c1 ?c2 ?c3 ?c4 ?c5 ?_)
            case c1 => exact fun j u hj => by have := strCells1 (w2.setCell ⟨b, 0, none⟩ (.slice (some ⟨rb, ro, none⟩) 0 0)) T j u hj; simpa using this
            case c2 => intro v hv; simp at hv; subst hv; rfl
            case c3 => unfold maxLen; omega
            case c4 => omega
            case c5 => have := H2.out.below.size; simp; omega
            intro v' w3 hown' hgrow _ hat
            obtain ⟨a4, c4, rfl⟩ := owns_slice hown'
            have hown' : w3.ownsRow w0.heap.size 9 1 (.slice a4 (nL + 1) c4) (nL + 1) ((ts' ++ [T]).map Value.string) := by rw [List.map_append]; exact hown'
            have H4 := Lib.hid (H3.out.putList hne HO2.out hown' hgrow (by simpa using hat))
            have h3s := hgrow.size
            simp at h3s
            have p1 := hgrow.cell (a := ⟨b, 1, none⟩) (v := .slice aL nL cL) (by go_simp) (Ne.symm hne)
            have pf := hgrow.frozen_far ⟨b, 1, none⟩ (by simp; omega) (Ne.symm hne)
            have pf1 : w3.frozen? ⟨b, 1, none⟩ = false := by rw [pf]; refine ((below1 _ _).frozen (by simpa using hlt2)).trans ?_; rw [World.frozen?_setCell]; exact e1
            have hlt3 : b < w3.heap.size := by omega
            have HG3 := Lib.hid (grown_trans' HG.out (grown_trans' (grown_below HB2.out) (grown_set w2 ⟨b, 0, none⟩ (.slice (some ⟨rb, ro, none⟩) 0 0))))
            have HLS : Hid (lenAt (w3.setCell ⟨b, 1, none⟩ (.slice a4 (nL + 1) c4)) b = (0)) := Lib.hid (by obtain ⟨x1, x2, x3, x4, x5, _⟩ := H4.out.c0; rw [lenAt_is x4, x5, ← HLD.out])
            have hws : w.heap.size ≤ w2.heap.size := Nat.le_trans HG.out.size HB2.out.size
            have HNL2 : Hid (NewL w (w3.setCell ⟨b, 1, none⟩ (.slice a4 (nL + 1) c4)) b) := Lib.hid (by
              intro a n c hc g hg
              rw [set_at p1] at hc
              cases hc
              rcases hat with e | e
              · exact HNW.out g (e ▸ hg)
              · rw [e] at hg
                simp at hg
                omega)
            have HGR := Lib.hid (grown_of_alloc hgrow)
            clear hown' hgrow hat pf
            go_wp2
            go_roundw
            case rel => exact ⟨f', n - 1, ⟨ys, false⟩, ts' ++ [T], by go_num, by omega, HFL.out, HF2, HTL.out, by have := H4.out; rwa [HB.out] at this, grown_trans' (grown_mix HG3.out HGR.out (fun g hg => HNW.out g hg)) (grown_set _ _ _), HNL2.out⟩
            case measure => rw [HLS.out, HLA.out]; omega
      · rw [hbad] at q2
        have hF := HE.out
        rw [rdS_stop (by rw [hbad]; simp)] at hF
        have HF2 := Lib.hid hF
        clear hR hrow hown hF hn0
        go_wp2
        go_end0
        rw [← HF2.out]
        exact ⟨rfl, HR.out, HG.out⟩
    · have hF := HE.out
      rw [rdS_stop (fun h => hn1 h.1)] at hF
      have HF2 := Lib.hid hF
      clear hR hrow hown hF hn0
      go_wp2
      go_end0
      rw [← HF2.out]
      exact ⟨rfl, HR.out, HG.out⟩
end Go.Proofs.YtbfjhjkllaceaaaGreatDoor
