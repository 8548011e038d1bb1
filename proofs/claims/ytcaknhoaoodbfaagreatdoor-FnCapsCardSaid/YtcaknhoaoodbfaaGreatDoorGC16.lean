/- The program's heap of texts: put. -/
import Derived.Test.YtcaknhoaoodbfaaGreatDoorGC15
import Derived.Maps.AppendAt
import Derived.IntWalk
import Derived.Deep.DeepCutAuto
namespace Go.Proofs.YtcaknhoaoodbfaaGreatDoor
open Go.ChangeShapes Go.WideShapes Go.ChangeAt Go.RowKit
set_option linter.unusedVariables false

theorem lineInfo : (Tryz.prog.info? 101).map (fun i => (i.zero, i.size, i.bytes)) = some (some (.string ByteArray.empty), 1, 16) := by kernel_rfl
/-- a heap in block hb with a row of its own -/
structure HeapR (w : World) (B hb : Nat) (v : Value) (L : List ByteArray) : Prop where
  is : HeapC w hb v
  own : w.ownsRow B 101 1 v L.length (L.map Value.string)
  ne : v.ownBlock ≠ some hb
  low : B ≤ hb
theorem HeapR.row {w : World} {B hb : Nat} {v : Value} {L : List ByteArray} (h : HeapR w B hb v L) (h0 : 0 < L.length) : ∃ g c, v = .slice (some ⟨g, 0, none⟩) L.length c ∧ RowC w g L ∧ g ≠ hb ∧ B ≤ g := by
  rcases h.own.2 with ⟨hv, e0⟩ | ⟨g, cap, cur, hv, hg, _⟩
  · omega
  · have ho := h.own
    have hne := h.ne
    subst hv
    refine ⟨g, cap, rfl, ⟨(ho.lt g rfl).2, fun i hi => ?_, fun i hi => ho.frozenAt i⟩, fun e => hne (by rw [e]; rfl), hg⟩
    rw [ho.cellAt i (by omega), List.getElem?_map, List.getElem?_eq_getElem hi]
    show some (Value.string _) = some (Value.string (L.getD i ByteArray.empty))
    rw [List.getD_eq_getElem?_getD, List.getElem?_eq_getElem hi]
    rfl
theorem HeapR.drewN {w : World} {B hb : Nat} {v : Value} {L : List ByteArray} (h : HeapR w B hb v L) (m : Nat) : HeapR (w.drewN m) B hb v L := ⟨h.is.drewN m, owns_below h.own (below_drewN (Below.refl _ _) m), h.ne, h.low⟩
theorem HeapR.set {w : World} {B hb g n c : Nat} {L : List ByteArray} (h : HeapR w B hb (.slice (some ⟨g, 0, none⟩) n c) L) (hg : g ≠ hb) (i : Nat) (t : ByteArray) : HeapR (w.setCell ⟨g, i, none⟩ (.string t)) B hb (.slice (some ⟨g, 0, none⟩) n c) (L.set i t) := by
  have hn : n = L.length := by
    rcases h.own.2 with ⟨hv, _⟩ | ⟨g2, cap, cur, hv, _⟩
    · cases hv
    · simp only [Value.slice.injEq] at hv
      exact hv.2.1
  subst hn
  refine ⟨h.is.setOther hg, ?_, h.ne, h.low⟩
  rw [List.length_set, List.map_set]
  exact (h.own.stored i (.string t)).1
theorem HeapR.sw {w : World} {B hb g n c : Nat} {L : List ByteArray} (h : HeapR w B hb (.slice (some ⟨g, 0, none⟩) n c) L) (hg : g ≠ hb) (i j : Nat) : HeapR ((w.setCell ⟨g, i, none⟩ (.string (ix L j))).setCell ⟨g, j, none⟩ (.string (ix L i))) B hb (.slice (some ⟨g, 0, none⟩) n c) (Proofs.YtcaknhoaoodbfaaGreatDoor.sw L i j) :=
  (h.set hg i (ix L j)).set hg j (ix L i)

theorem grown_set (w : World) (b i : Nat) (v : Value) : w.grownBy (w.setCell ⟨b, i, none⟩ v) (some b) :=
  ⟨rfl, rfl, rfl, by simp, fun k _ hk => Below.heap_setCell w ⟨b, i, none⟩ v k fun e => hk (by rw [e])⟩
def PutRes9 (B hb : Nat) (L : List ByteArray) (x : ByteArray) (w : World) (e : Ending) (w' : World) : Prop :=
  e = .returned (.tuple #[]) ∧ ∃ v' L', HeapR w' B hb v' L' ∧ Hid (L'.length = L.length + 1 ∧ IsHeap L' ∧ L'.Perm (L ++ [x])) ∧ Below B w w'
set_option maxRecDepth 100000 in
set_option maxHeartbeats 6400000 in
theorem put_any (B hb : Nat) (v : Value) (L : List ByteArray) (x : ByteArray) (w : World) (hl : L.length ≤ 100) (hH : HeapR w B hb v L) (hp : IsHeap L) :
    Calls Tryz.prog 160 #[.pointer (some ⟨hb, 0, none⟩), .string x] w (PutRes9 B hb L x w) := by
  obtain ⟨i0, hi, hz0, hz1, hz2⟩ := info_parts lineInfo
  have c0 := hH.is.c0
  have f0 := hH.is.free
  have hlt := hH.is.lt
  have hBh := hH.low
  have hBw : B ≤ w.heap.size := by omega
  obtain ⟨a0, cc, hv0⟩ := owns_slice hH.own
  have HH := Lib.hid hH
  have HP := Lib.hid hp
  have hva : v.ownBlock ≠ some hb := hH.ne
  clear hH hp
  obtain ⟨n, hn⟩ : ∃ n, L.length = n := ⟨_, rfl⟩
  rw [hn] at hv0 hl
  have HN := Lib.hid hn
  have HO : Hid (w.ownsRow B 101 1 v n (L.map Value.string)) := Lib.hid (by rw [← hn]; exact HH.out.own)
  clear hn
  subst hv0
  unfold PutRes9
  go_enter Tryz.func160, Tryz.ntmps160
  go_wp2_with (at_builtin; refine wpList_append_own_at _ rfl _ _ 100 rfl B 101 i0 (.string ByteArray.empty) 1 16 Tryz.underlying100 hi hz0 hz1 hz2 rfl (by decide) _ n _ rfl (HO.out.alloc _) ⟨w.heap.size, 0, none⟩ 1 1 [.string x] rfl rfl (cell_one_new _ _ _) (by simp [Value.oneCell']) (by unfold maxLen; omega) (by omega) (by simp; omega) ?_)
  intro v' w1 hown hgrow _ hat
  have hne' : v'.ownBlock ≠ some hb := by
    rcases hat with e | e
    · rw [e]; exact hva
    · rw [e]; simp; omega
  have hC1 : HeapC (w1.setCell ⟨hb, 0, none⟩ v') hb v' := by
    have o1 : Only (fun k => some k = (Value.slice a0 n cc).ownBlock) w w1 :=
      ⟨hgrow.os, hgrow.tape, hgrow.output, by have := hgrow.size; simp at this; omega, fun i hi hq => (hgrow.block i (by simp; omega) hq).trans ((below1 w (.cells #[.string x] 101)).block i hi)⟩
    have h1 := HH.out.is.only o1 (fun e => hva e.symm)
    exact ⟨by simpa using h1.lt, World.cell?_setCell_same _ _ _ h1.c0, (World.cell?_setCell_other _ _ _ _ (fun e => absurd (congrArg Addr.off e) (by simp))).trans h1.c1, by rw [World.frozen?_setCell]; exact h1.free⟩
  have hB1 : Below B w w1 := by
    have h1 : Below B w (w.alloc (.cells #[.string x] 101)) := (Below.refl _ _).alloc hBw _
    exact h1.grown hgrow (by simp; omega) (fun k hk => (HO.out.lt k hk).1)
  have hO1 : (w1.setCell ⟨hb, 0, none⟩ v').ownsRow B 101 1 v' (n + 1) ((L ++ [x]).map Value.string) := by
    rw [List.map_append]
    exact hown.kept (row := some hb) (grown_set w1 hb 0 v') (.inr hne')
  have hR1 : HeapR (w1.setCell ⟨hb, 0, none⟩ v') B hb v' (L ++ [x]) := ⟨hC1, by rw [List.length_append, HN.out]; exact hO1, hne', hBh⟩
  have d0 : w1.cell? ⟨hb, 0, none⟩ = some (.slice a0 n cc) := by
    refine (World.cell?_of_block (hgrow.block hb (by simp; omega) (fun e => hva e.symm))).trans ?_
    exact ((below1 w _).cell (p := ⟨hb, 0, none⟩) hlt).trans c0
  have df : w1.frozen? ⟨hb, 0, none⟩ = false := by
    refine (World.frozen?_of_block (hgrow.block hb (by simp; omega) (fun e => hva e.symm))).trans ?_
    exact ((below1 w _).frozen (p := ⟨hb, 0, none⟩) hlt).trans f0
  have HR1 := Lib.hid hR1
  have HB1 : Hid (Below B w (w1.setCell ⟨hb, 0, none⟩ v')) := Lib.hid (hB1.setCell (p := ⟨hb, 0, none⟩) hBh _)
  have hlx : (L ++ [x]).length = n + 1 := by rw [List.length_append, HN.out]; rfl
  obtain ⟨g, c2, hv', _, hgh, hBg⟩ := hR1.row (by simp)
  rw [hlx] at hv'
  have HLX := Lib.hid hlx
  clear hlx
  subst hv'
  have HU : Hid (UpAt (L ++ [x]) n) := Lib.hid (by have := up_snoc HP.out x; rw [HN.out] at this; exact this)
  clear hC1 hB1 hO1 hR1 hown hgrow hat hne' c0 f0
  go_wp2_with fail
  generalize w1.setCell ⟨hb, 0, none⟩ (.slice (some ⟨g, 0, none⟩) (n + 1) c2) = w2 at HR1 HB1 ⊢
  go_loopw [4] (fun a wr => ∃ (p : Nat) (L' : List ByteArray), a = .int .i64 p ∧ p ≤ n ∧ L'.length = n + 1 ∧ HeapR wr B hb (.slice (some ⟨g, 0, none⟩) (n + 1) c2) L' ∧ Hid (UpAt L' p ∧ L'.Perm (L ++ [x])) ∧ Below B w wr) (fun a _ => (intOf a).toNat)
  case atStart => exact ⟨n, L ++ [x], by go_num, Nat.le_refl _, HLX.out, HR1.out, Lib.hid ⟨HU.out, List.Perm.refl _⟩, HB1.out⟩
  case round =>
    clear d0 df
    obtain ⟨p, L', rfl, hpn, hlen, hr, HUP, hbl⟩ := hrel
    have HRR := Lib.hid hr
    have HB := Lib.hid hbl
    have c0 := hr.is.c0
    have c1 := hr.is.c1
    obtain ⟨_, _, e1, hrow, _, _⟩ := hr.row (by omega)
    simp only [Value.slice.injEq, Option.some.injEq, Addr.mk.injEq, and_true] at e1
    obtain ⟨rfl, e2, rfl⟩ := e1
    clear e2
    have HLEN := Lib.hid hlen
    rcases Nat.eq_zero_or_pos p with rfl | hp0
    · have HD := Lib.hid (up_done HUP.out.1 (.inl rfl))
      clear hr hbl hrow hlen
      go_wp2_with fail
      go_quiet (fail)
      go_wp2
      go_end0
      exact ⟨rfl, _, L', HRR.out.drewN _, Lib.hid ⟨by rw [HN.out]; exact HLEN.out, HD.out, HUP.out.2⟩, below_drewN HB.out _⟩
    obtain ⟨q, rfl⟩ : ∃ q, p = q + 1 := ⟨p - 1, by omega⟩
    have d1 := hrow.cell (q + 1) (by omega)
    have d2 := hrow.cell (q / 2) (by omega)
    have HROW := Lib.hid hrow
    have HUD : Hid (leT (ix L' (q / 2)) (ix L' (q + 1)) → IsHeap L') := Lib.hid (fun h => up_done HUP.out.1 (.inr (by rw [Nat.add_sub_cancel]; exact h)))
    have HUS : Hid (leT (ix L' (q + 1)) (ix L' (q / 2)) → UpAt (Proofs.YtcaknhoaoodbfaaGreatDoor.sw L' (q + 1) (q / 2)) (q / 2)) := Lib.hid (fun h => by
      have := up_swap (p := q + 1) (by omega) (by omega) HUP.out.1
      rw [Nat.add_sub_cancel] at this
      exact this h)
    have KS := Lib.hid (fun m => swap_any hb g (n + 1) c2 L' (q + 1) (q / 2) (wr.drewN m) hlen (by omega) (by omega) (by omega) (by omega) (HRR.out.is.drewN m) (hrow.drewN m))
    unfold SwapRes at KS
    have HSW : Hid (∀ m, HeapR (((wr.drewN m).setCell ⟨g, q + 1, none⟩ (.string (ix L' (q / 2)))).setCell ⟨g, q / 2, none⟩ (.string (ix L' (q + 1)))) B hb (.slice (some ⟨g, 0, none⟩) (n + 1) c2) (Proofs.YtcaknhoaoodbfaaGreatDoor.sw L' (q + 1) (q / 2))) := Lib.hid (fun m => (HRR.out.drewN m).sw hgh (q + 1) (q / 2))
    have HSP := Lib.hid (sw_perm L' (q + 1) (q / 2) (by omega) (by omega))
    have HSL := Lib.hid (sw_length L' (q + 1) (q / 2))
    have m1 : IntKind.i64.wrap (q : Int) = (q : Int) := IntWalk.i64_in _ (by omega)
    clear hr hbl hrow hlen
    generalize hs : ix L' (q + 1) = s at *
    generalize ht : ix L' (q / 2) = t at *
    have KA := Lib.hid (fun W => isAhead_any s t W)
    clear hs ht
    cases hl : Op.bytesLess s.toList t.toList
    · have HD := Lib.hid (HUD.out hl)
      rw [hl] at KA
      have z1 : (0 : Int) < (q : Int) + 1 := by omega
      have z2 : (q : Int) + 1 < (n : Int) + 1 := by omega
      have z3 : (q : Int) / 2 < (n : Int) + 1 := by omega
      have z4 : (0 : Int) ≤ (q : Int) / 2 := by omega
      go_wp2_with fail
      go_quiet ((refine (KA.out _).mono ?_; rintro _ _ ⟨he, hw⟩; exact ⟨he, _, hw⟩))
      go_wp2
      go_end0
      exact ⟨rfl, _, L', HRR.out.drewN _, Lib.hid ⟨by rw [HN.out]; exact HLEN.out, HD.out, HUP.out.2⟩, below_drewN HB.out _⟩
    · have HD := Lib.hid (HUS.out (leT_of_less hl))
      rw [hl] at KA
      have z1 : (0 : Int) < (q : Int) + 1 := by omega
      have z2 : (q : Int) + 1 < (n : Int) + 1 := by omega
      have z3 : (q : Int) / 2 < (n : Int) + 1 := by omega
      have z4 : (0 : Int) ≤ (q : Int) / 2 := by omega
      go_wp2_with fail
      go_quiet ((refine (KA.out _).mono ?_; rintro _ _ ⟨he, hw⟩; exact ⟨he, _, hw⟩))
      go_wp2_with fail
      refine (KS.out _).mono ?_
      rintro e w4 ⟨rfl, nd, rfl⟩
      go_wp2
      go_roundw
      case rel => exact ⟨q / 2, _, by go_num, by omega, by rw [HSL.out]; exact HLEN.out, HSW.out _, Lib.hid ⟨HD.out, HSP.out.trans HUP.out.2⟩, ((below_drewN HB.out _).setCell (p := ⟨g, q + 1, none⟩) hBg _).setCell (p := ⟨g, q / 2, none⟩) hBg _⟩
      case measure => simp [intOf]; omega
end Go.Proofs.YtcaknhoaoodbfaaGreatDoor
