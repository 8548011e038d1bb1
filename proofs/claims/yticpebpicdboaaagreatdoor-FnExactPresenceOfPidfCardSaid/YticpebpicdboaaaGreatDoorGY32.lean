/- spec.l7Root. -/
import Derived.Test.YticpebpicdboaaaGreatDoorGY18
import Derived.Test.YticpebpicdboaaaGreatDoorGY31
import Derived.Deep.RegionHeld3
import Derived.Deep.DeepCutAuto
namespace Go.Proofs.YticpebpicdboaaaGreatDoor
open Go.ChangeShapes Go.WideShapes Go.ChangeAt Go.RowKit
set_option linter.unusedVariables false

/-- what the root says is in the presence, or it is told that it can't be -/
def RootRes (w0 : World) (pb : Nat) (a : Option Addr) (n c : Nat) (r : Option Pr) (e : Ending) (w' : World) : Prop :=
  ∃ (bb : Bool) (q : Pr), e = .returned (.bool bb) ∧ PrMut w0 w' pb q a n c ∧ (bb = true → r = some q) ∧ (bb = false → r = none)
/-- the place of a type's word, and what is kept -/
theorem kindPlace (w0 w : World) (pb : Nat) (p : Pr) (a : Option Addr) (n c : Nat) (h : PrMut w0 w pb p a n c) (t : ByteArray) :
    Calls Tryz.prog 86 #[] w fun e w' => ∃ v, e = .returned v ∧ PrMut w0 w' pb p a n c ∧ Below w.heap.size w w' ∧ ∀ W, Below w'.heap.size w' W → Calls Tryz.prog 161 #[v, .string t] W fun e W' => e = .returned (.int .i64 (hasIx kindWs t)) ∧ ∃ n, W' = W.drewN n :=
  (l7Kinds_row w).mono fun e w' ⟨he, hr, hb⟩ => ⟨_, he, h.keep hb, hb, fun W hW => l6Has_any _ kindWs t W (hr.below hW)⟩

theorem prT_list : prT.toList = [112, 114, 101, 115, 101, 110, 99, 101] := by rw [ByteArray.toList_eq]; rfl
theorem fromT_list : fromT.toList = [102, 114, 111, 109] := by rw [ByteArray.toList_eq]; rfl
theorem toT_list : toT.toList = [116, 111] := by rw [ByteArray.toList_eq]; rfl
theorem typeT_list : typeT.toList = [116, 121, 112, 101] := by rw [ByteArray.toList_eq]; rfl

set_option maxRecDepth 100000 in
set_option maxHeartbeats 3200000 in
theorem l7Root_any (b o pb : Nat) (x : It) (p : Pr) (a : Option Addr) (n c : Nat) (w0 w : World) (hx : ItAt w0 b o x) (h5 : x.attrs.length ≤ 5) (h : PrMut w0 w pb p a n c) :
    Calls Tryz.prog 158 #[.pointer (some ⟨b, o, none⟩), .pointer (some ⟨pb, 0, none⟩)] w (RootRes w0 pb a n c (rootP x p)) := by
  have hxw := hx.below h.below
  have e2 := hxw.c2
  have e3 := hxw.c3
  have H := Lib.hid h
  have HX := Lib.hid hx
  have hlt : b < w0.heap.size := hx.lt
  have hge : w0.heap.size ≤ pb := h.ge
  clear h hx hxw
  by_cases hn : x.name.toList = [112, 114, 101, 115, 101, 110, 99, 101]
  case neg =>
    have hr : rootP x p = none := by unfold rootP; rw [prT_list, if_neg fun q => hn q.1]
    rw [hr]
    have HNN := Lib.hid hn
    have hn2 : (x.name.toList == [112, 114, 101, 115, 101, 110, 99, 101]) = false := by simpa using hn
    clear hn
    obtain ⟨xd, xt, xs, xn, xa⟩ := x
    dsimp only at hn2 e2 e3
    go_enter Tryz.func158, Tryz.ntmps158
    go_wp2
    go_ret
    exact ⟨false, p, rfl, H.out, by simp, fun _ => rfl⟩
  by_cases hs : x.space.toList = csL
  case neg =>
    have hr : rootP x p = none := by unfold rootP; rw [if_neg fun q => hs q.2]
    rw [hr]
    unfold csL at hs
    have hs2 : (x.space.toList == [106, 97, 98, 98, 101, 114, 58, 99, 108, 105, 101, 110, 116]) = false := by simpa using hs
    have hn2 : (x.name.toList == [112, 114, 101, 115, 101, 110, 99, 101]) = true := by simpa using hn
    clear hs hn
    obtain ⟨xd, xt, xs, xn, xa⟩ := x
    dsimp only at hn2 hs2 e2 e3
    go_enter Tryz.func158, Tryz.ntmps158
    go_wp2
    go_ret
    exact ⟨false, p, rfl, H.out, by simp, fun _ => rfl⟩
  have hr : rootP x p = rootF x.attrs x.attrs.length 0 p := by unfold rootP; rw [prT_list, if_pos ⟨hn, hs⟩]
  rw [hr]
  unfold csL at hs
  have hs2 : (x.space.toList == [106, 97, 98, 98, 101, 114, 58, 99, 108, 105, 101, 110, 116]) = true := by simpa using hs
  have hn2 : (x.name.toList == [112, 114, 101, 115, 101, 110, 99, 101]) = true := by simpa using hn
  clear hs hn hr
  obtain ⟨a4, n4, c4, d4, hat⟩ := HX.out.c4
  have hlen := hat.len
  have D4 : Hid (∀ W, Below w0.heap.size w0 W → W.cell? ⟨b, o + 4, none⟩ = some (.slice a4 n4 c4)) := Lib.hid fun W hW => (hW.cell (p := ⟨b, o + 4, none⟩) hlt).trans d4
  have HAT := Lib.hid hat
  clear d4 hat HX
  obtain ⟨xd, xt, xs, xn, xa⟩ := x
  dsimp only at hn2 hs2 e2 e3 h5 hlen HAT ⊢
  rw [hlen] at h5 ⊢
  have HLEN := Lib.hid hlen
  clear hlen
  have d4 := D4.out w H.out.below
  obtain ⟨r0, hr0⟩ : ∃ r0, rootF xa n4 0 p = r0 := ⟨_, rfl⟩
  rw [hr0]
  have HR0 := Lib.hid hr0
  clear hr0
  go_enter Tryz.func158, Tryz.ntmps158
  go_wp2
  go_loopw [24] (fun i wr => ∃ (k : Nat) (q : Pr), k ≤ n4 ∧ i = .int .i64 (k : Int) ∧ PrMut w0 wr pb q a n c ∧ r0 = rootF xa (n4 - k) k q) (fun i _ => n4 - (intOf i).toNat)
  case atStart => exact ⟨0, p, Nat.zero_le _, rfl, H.out, HR0.out.symm⟩
  case round =>
    obtain ⟨k, q, hk, rfl, hq, hrr⟩ := hrel
    have HQ := Lib.hid hq
    have HRR := Lib.hid hrr
    clear hq hrr d4 e2 e3
    by_cases hlt2 : k < n4
    · have q0 : (k : Int) < (n4 : Int) := by omega
      obtain ⟨ab, ao, rfl, hab, hcs⟩ := HAT.out.row.resolve_left (by omega)
      have d4 := D4.out wr HQ.out.below
      have f0 := (HQ.out.below.cell (p := ⟨ab, ao + k * 2, none⟩) hab).trans (hcs k hlt2).1
      have f1 := (HQ.out.below.cell (p := ⟨ab, ao + k * 2 + 1, none⟩) hab).trans (hcs k hlt2).2
      have HST : Hid (∀ s, rootOne (xa.getD k dAt) q = some s → r0 = rootF xa (n4 - (k + 1)) (k + 1) s) := Lib.hid fun s e => by
        rw [HRR.out, show n4 - k = (n4 - (k + 1)) + 1 from by omega]
        exact rootF_step e
      have HNO : Hid (rootOne (xa.getD k dAt) q = none → r0 = none) := Lib.hid fun e => by
        rw [HRR.out, show n4 - k = (n4 - (k + 1)) + 1 from by omega]
        exact rootF_stop e
      clear hcs HRR
      generalize xa.getD k dAt = y at f0 f1 HST HNO
      obtain ⟨yn, yv⟩ := y
      unfold rootOne at HST HNO
      dsimp only at f0 f1 HST HNO
      rw [fromT_list, toT_list, typeT_list] at HST HNO
      have z1 := HQ.out.is.c1
      have z2 := HQ.out.is.c2
      have z0 := HQ.out.is.c0
      have y0 := HQ.out.fz 0
      have y1 := HQ.out.fz 1
      have y2 := HQ.out.fz 2
      by_cases g1 : yn.toList = [102, 114, 111, 109]
      · have S1 := Lib.hid (HST.out _ (by rw [if_pos g1]))
        have g1b : (yn.toList == [102, 114, 111, 109]) = true := by simpa using g1
        clear HST HNO g1
        go_wp2
        go_roundw
        case rel => exact ⟨k + 1, _, by omega, by go_num, HQ.out.setSender yv, S1.out⟩
        case measure => simp [intOf]; omega
      have g1b : (yn.toList == [102, 114, 111, 109]) = false := by simpa using g1
      by_cases g2 : yn.toList = [116, 111]
      · have S1 := Lib.hid (HST.out _ (by rw [if_neg g1, if_pos g2]))
        have g2b : (yn.toList == [116, 111]) = true := by simpa using g2
        clear HST HNO g1 g2
        go_wp2
        go_roundw
        case rel => exact ⟨k + 1, _, by omega, by go_num, HQ.out.setGoal yv, S1.out⟩
        case measure => simp [intOf]; omega
      have g2b : (yn.toList == [116, 111]) = false := by simpa using g2
      by_cases g3 : yn.toList = [116, 121, 112, 101]
      case neg =>
        have S1 := Lib.hid (HNO.out (by rw [if_neg g1, if_neg g2, if_neg g3]))
        have g3b : (yn.toList == [116, 121, 112, 101]) = false := by simpa using g3
        clear HST HNO g1 g2 g3
        go_wp2
        go_ret
        exact ⟨false, q, rfl, HQ.out, by simp, fun _ => S1.out⟩
      have g3b : (yn.toList == [116, 121, 112, 101]) = true := by simpa using g3
      have HS3 : Hid (¬ hasIx kindWs yv < 1 → r0 = rootF xa (n4 - (k + 1)) (k + 1) { q with kind := hasIx kindWs yv }) := Lib.hid fun e => HST.out _ (by rw [if_neg g1, if_neg g2, if_pos g3, if_neg e])
      have HN3 : Hid (hasIx kindWs yv < 1 → r0 = none) := Lib.hid fun e => HNO.out (by rw [if_neg g1, if_neg g2, if_pos g3, if_pos e])
      clear HST HNO g1 g2 g3
      have HQD := Lib.hid (HQ.out.keep (Below.refl wr.heap.size wr).drew)
      have KK := Lib.hid (kindPlace w0 wr.drew pb q a n c HQD.out yv)
      generalize hasIx kindWs yv = ix at HS3 HN3 KK
      have hab2 : ab < wr.heap.size := World.block_lt_of_cell? _ _ f1
      have HC : Hid (∀ W, Below wr.drew.heap.size wr.drew W → W.cell? ⟨ab, ao + k * 2 + 1, none⟩ = some (.string yv)) := Lib.hid fun W hW => (hW.cell (p := ⟨ab, ao + k * 2 + 1, none⟩) hab2).trans f1
      go_upto_region 14 with fail
      have hne : pb ≠ ab := by omega
      have hS0 := HC.out wr.drew (Below.refl _ _)
      clear f0 f1 z0 z1 z2 y0 y1 y2 d4
      go_region_held3 (fun W => W.cell? ⟨ab, ao + k * 2 + 1, none⟩ = some (.string yv)) (first | with_reducible assumption | with_reducible exact HC.out _ hb1 | with_reducible exact HC.out _ hb2 | exact hst2 _)
        (first
          | (go_at_call 86; refine KK.out.mono ?_; rintro e w1 ⟨v, rfl, hq1, hb1, kh⟩; have hK1 := Lib.hid kh; have hQ1 := Lib.hid hq1; clear kh hq1)
          | (go_at_call 161; ((with_reducible refine (hK1.out _ (Below.refl _ _)).mono ?_)); rintro e w2 ⟨rfl, nd, rfl⟩; have hq2 := hQ1.out.keep (below_drewN (Below.refl _ _) nd); have z0 := hq2.is.c0; have y0 := hq2.fz 0; have hb2 := hb1.trans (below_drewN (Below.refl _ _) nd); have HQ2 := Lib.hid hq2; have hst2 : ∀ u, ((w1.drewN nd).setCell ⟨pb, 0, none⟩ u).cell? ⟨ab, ao + k * 2 + 1, none⟩ = some (.string yv) := fun u => (World.cell?_setCell_other _ _ _ _ (fun q => hne (congrArg Addr.block q))).trans (HC.out _ hb2); clear hq2))
      have hq3 := HQ2.out.setKind ix
      clear hst2 z0 y0 hb2 hQ1 hK1 HQ2
      generalize (w1.drewN nd).setCell ⟨pb, 0, none⟩ (.int .i64 ix) = w3 at hq3 ⊢
      have z0 := hq3.is.c0
      have HQ3 := Lib.hid hq3
      clear hq3
      by_cases hix : ix < 1
      · have S1 := Lib.hid (HN3.out hix)
        clear HN3 HS3
        go_wp2
        go_ret
        exact ⟨false, _, rfl, HQ3.out, by simp, fun _ => S1.out⟩
      · have S1 := Lib.hid (HS3.out (by omega))
        clear HN3 HS3
        go_wp2
        go_roundw
        case rel => exact ⟨k + 1, _, by omega, by go_num, HQ3.out, S1.out⟩
        case measure => simp [intOf]; omega
    · obtain rfl : k = n4 := by omega
      have S1 : Hid (r0 = some q) := Lib.hid (by rw [HRR.out, Nat.sub_self]; rfl)
      have d4 := D4.out wr HQ.out.below
      go_wp2
      go_ret
      exact ⟨true, q, rfl, HQ.out, fun _ => S1.out, by simp⟩
end Go.Proofs.YticpebpicdboaaaGreatDoor
