/- The program's heap of texts: take. -/
import Derived.Test.YtcaknhoaoodbfaaGreatDoorGC16
import Derived.Test.YtcaknhoaoodbfaaGreatDoorGC0
import Derived.Shelf.Strings.BuilderRune
import Derived.Test.YtcaknhoaoodbfaaGreatDoorGC4
namespace Go.Proofs.YtcaknhoaoodbfaaGreatDoor
open Go.ChangeShapes Go.WideShapes Go.ChangeAt Go.RowKit
set_option linter.unusedVariables false

set_option maxRecDepth 100000 in
set_option maxHeartbeats 1600000 in
theorem firstOf_none (hb : Nat) (a : Option Addr) (c : Nat) (w : World) (hH : HeapC w hb (.slice a 0 c)) :
    Calls Tryz.prog 209 #[.pointer (some ⟨hb, 0, none⟩), .int .i64 0] w fun e w' => e = .returned (.int .i64 0) ∧ ∃ k, w' = w.drewN k := by
  have c0 := hH.c0
  have c1 := hH.c1
  clear hH
  go_enter Tryz.func209, Tryz.ntmps209
  go_wp2
  go_loopw [5, 6] (fun f b wr => f = .int .i64 0 ∧ b = .int .i64 1 ∧ ∃ q, wr = w.drewN q) (fun _ b _ => 0)
  case atStart => exact ⟨by first | rfl | trivial, by first | rfl | trivial, 0, rfl⟩
  case round =>
    obtain ⟨rfl, rfl, nq, rfl⟩ := hrel
    go_wp2
    go_ret
    exact ⟨rfl, _, rfl⟩

/-- the first one is taken out -/
def TakeRes (hb g k c : Nat) (L : List ByteArray) (w : World) (e : Ending) (w' : World) : Prop :=
  e = .returned (.string (ix L 0)) ∧ ∃ L', HeapC w' hb (.slice (some ⟨g, 0, none⟩) k c) ∧ RowC w' g L' ∧ Hid (L'.length = k ∧ IsHeap L' ∧ L'.Perm (tk L)) ∧ Only (fun i => i = g ∨ i = hb) w w'
theorem row_tk {w : World} {g k : Nat} {L : List ByteArray} (h : RowC w g L) (hl : L.length = k + 1) : RowC (w.setCell ⟨g, 0, none⟩ (.string (ix L k))) g (tk L) := by
  have h1 := h.set 0 (by omega) (ix L k)
  have hk : L.length - 1 = k := by omega
  refine ⟨h1.lt, fun i hi => ?_, fun i hi => ?_⟩
  · rw [tk_length] at hi
    rw [h1.cell i (by rw [List.length_set]; omega), ix_set _ _ _ _ (by omega), tk_ix _ _ (by omega), hk]
  · rw [tk_length] at hi
    exact h1.free i (by rw [List.length_set]; omega)
set_option maxRecDepth 100000 in
set_option maxHeartbeats 6400000 in
theorem take_any (hb g k c : Nat) (L : List ByteArray) (w : World) (hl : L.length = k + 1) (hk : k ≤ 100) (hkc : k + 1 ≤ c) (hgh : g ≠ hb) (hH : HeapC w hb (.slice (some ⟨g, 0, none⟩) (k + 1) c)) (hR : RowC w g L) (hp : IsHeap L) :
    Calls Tryz.prog 162 #[.pointer (some ⟨hb, 0, none⟩)] w (TakeRes hb g k c L w) := by
  have c0 := hH.c0
  have f0 := hH.free
  have d0 := hR.cell 0 (by omega)
  have d1 := hR.cell k (by omega)
  have g0 := hR.free 0 (by omega)
  have hlt := hH.lt
  have hgt := hR.lt
  have HT : Hid (RowC ((w.setCell ⟨g, 0, none⟩ (.string (ix L k))).setCell ⟨hb, 0, none⟩ (.slice (some ⟨g, 0, none⟩) k c)).drew g (tk L)) := Lib.hid (((row_tk hR hl).only (P := fun i => i = hb) (Only.set _ ⟨hb, 0, none⟩ (.slice (some ⟨g, 0, none⟩) k c) rfl) (fun e => hgh e)).drewN 1)
  have HC : Hid (HeapC ((w.setCell ⟨g, 0, none⟩ (.string (ix L k))).setCell ⟨hb, 0, none⟩ (.slice (some ⟨g, 0, none⟩) k c)).drew hb (.slice (some ⟨g, 0, none⟩) k c)) := Lib.hid (by
    have h1 := hH.setOther (p := ⟨g, 0, none⟩) (u := .string (ix L k)) hgh
    exact HeapC.drewN (w := (w.setCell ⟨g, 0, none⟩ (.string (ix L k))).setCell ⟨hb, 0, none⟩ (.slice (some ⟨g, 0, none⟩) k c)) ⟨by simpa using h1.lt, World.cell?_setCell_same _ _ _ h1.c0, (World.cell?_setCell_other _ _ _ _ (fun e => absurd (congrArg Addr.off e) (by simp))).trans h1.c1, by rw [World.frozen?_setCell]; exact h1.free⟩ 1)
  have HOn : Hid (Only (fun i => i = g ∨ i = hb) w ((w.setCell ⟨g, 0, none⟩ (.string (ix L k))).setCell ⟨hb, 0, none⟩ (.slice (some ⟨g, 0, none⟩) k c)).drew) := Lib.hid (only_drew (((Only.refl w).trans (Only.set w ⟨g, 0, none⟩ (.string (ix L k)) (.inl rfl))).trans (Only.set _ ⟨hb, 0, none⟩ (.slice (some ⟨g, 0, none⟩) k c) (.inr rfl))))
  have HD := Lib.hid (tk_down hp)
  have HTL : Hid ((tk L).length = k) := Lib.hid (by rw [tk_length, hl]; omega)
  have hne : hb ≠ g := fun e => hgh e.symm
  unfold TakeRes
  generalize ix L k = t at *
  generalize ix L 0 = s at *
  generalize tk L = T at *
  clear hH hR hp hl
  have q1 : (k : Int) < ((k + 1 : Nat) : Int) := by omega
  go_enter Tryz.func162, Tryz.ntmps162
  go_wp2
  go_region
  all_goals
    go_wp2_with fail
  generalize ((w.setCell ⟨g, 0, none⟩ (.string t)).setCell ⟨hb, 0, none⟩ (.slice (some ⟨g, 0, none⟩) k c)).drew = w2 at HT HC HOn ⊢
  clear c0 f0 d0 d1 g0 hlt hgt
  rcases Nat.eq_zero_or_pos k with rfl | hk0
  · have hTn : T = [] := List.length_eq_zero_iff.1 HTL.out
    have HX : Hid (T.length = 0 ∧ IsHeap T ∧ T.Perm T) := Lib.hid ⟨HTL.out, by rw [hTn]; intro i hi hl; simp at hl, List.Perm.refl _⟩
    clear hTn
    refine (firstOf_none hb _ c w2 HC.out).mono ?_
    rintro e w3 ⟨rfl, nd, rfl⟩
    have HR3 := Lib.hid (HT.out.drewN nd)
    have HC3 := Lib.hid (HC.out.drewN nd)
    have HO3 := Lib.hid (only_drewN HOn.out nd)
    clear HT HC HOn
    go_wp2_with fail
    go_loopw [5, 6] (fun a b wr => a = .int .i64 0 ∧ b = .int .i64 0 ∧ wr = w2.drewN nd) (fun a b _ => 0)
    case atStart => exact ⟨by first | rfl | trivial, by first | rfl | trivial, by first | rfl | trivial⟩
    case round =>
      obtain ⟨rfl, rfl, rfl⟩ := hrel
      go_wp2
      go_ret
      exact ⟨rfl, T, HC3.out, HR3.out, HX.out |> Lib.hid, HO3.out⟩
  refine (firstOf_any hb g k c T 0 w2 HTL.out (by omega) hk0 HC.out HT.out).mono ?_
  rintro e w3 ⟨m0, rfl, hf0, nd, rfl⟩
  have HR3 := Lib.hid (HT.out.drewN nd)
  have HC3 := Lib.hid (HC.out.drewN nd)
  have HO3 := Lib.hid (only_drewN HOn.out nd)
  clear HT HC HOn
  generalize w2.drewN nd = w3 at HR3 HC3 HO3 ⊢
  go_wp2_with fail
  go_loopw [5, 6] (fun a b wr => ∃ (p m : Nat) (L' : List ByteArray), a = .int .i64 p ∧ b = .int .i64 m ∧ p < k ∧ HeapC wr hb (.slice (some ⟨g, 0, none⟩) k c) ∧ RowC wr g L' ∧ Hid (L'.length = k ∧ DownAt L' p ∧ L'.Perm T) ∧ Hid (FirstAt L' p m) ∧ Only (fun i => i = g ∨ i = hb) w wr) (fun a _ _ => k - (intOf a).toNat)
  case atStart => exact ⟨0, m0, T, rfl, rfl, hk0, HC3.out, HR3.out, Lib.hid ⟨HTL.out, HD.out, List.Perm.refl _⟩, hf0, HO3.out⟩
  case round =>
    clear HC3 HR3 HO3 hf0 HD
    obtain ⟨p, m, L', rfl, rfl, hpk, hc, hr, HS, HF, ho⟩ := hrel
    have HC := Lib.hid hc
    have HR := Lib.hid hr
    have HO := Lib.hid ho
    clear hc hr ho
    by_cases hpm : m = p
    · subst hpm
      have HX : Hid (L'.length = k ∧ IsHeap L' ∧ L'.Perm T) := Lib.hid ⟨HS.out.1, down_done HS.out.2.1 (fun j hj hjl => HF.out.2.2 j (.inr hj) hjl), HS.out.2.2⟩
      go_wp2
      go_ret
      exact ⟨rfl, L', HC.out, HR.out, HX, HO.out⟩
    · have hm2 : m = 2 * p + 1 ∨ m = 2 * p + 2 := HF.out.1.resolve_left hpm
      have hmk : m < k := by have := HF.out.2.1; have := HS.out.1; omega
      have HX : Hid ((Proofs.YtcaknhoaoodbfaaGreatDoor.sw L' p m).length = k ∧ DownAt (Proofs.YtcaknhoaoodbfaaGreatDoor.sw L' p m) m ∧ (Proofs.YtcaknhoaoodbfaaGreatDoor.sw L' p m).Perm T) := Lib.hid ⟨by rw [sw_length]; exact HS.out.1, down_swap (by have := HS.out.1; omega) HF.out.2.1 HS.out.2.1 hm2 HF.out.2.2, (sw_perm L' p m (by have := HS.out.1; omega) HF.out.2.1).trans HS.out.2.2⟩
      have KS := Lib.hid (swap_any hb g k c L' p m wr HS.out.1 (by omega) (by omega) hmk (by omega) HC.out HR.out)
      unfold SwapRes at KS
      have HRW : Hid (∀ q, RowC (((wr.drewN q).setCell ⟨g, p, none⟩ (.string (ix L' m))).setCell ⟨g, m, none⟩ (.string (ix L' p))) g (Proofs.YtcaknhoaoodbfaaGreatDoor.sw L' p m)) := Lib.hid fun q => ((HR.out.drewN q).set p (by have := HS.out.1; omega) _).set m (by rw [List.length_set]; exact HF.out.2.1) _
      have HCW : Hid (∀ q, HeapC (((wr.drewN q).setCell ⟨g, p, none⟩ (.string (ix L' m))).setCell ⟨g, m, none⟩ (.string (ix L' p))) hb (.slice (some ⟨g, 0, none⟩) k c)) := Lib.hid fun q => ((HC.out.drewN q).setOther (p := ⟨g, p, none⟩) hgh).setOther (p := ⟨g, m, none⟩) hgh
      have HOW : Hid (∀ q, Only (fun i => i = g ∨ i = hb) w (((wr.drewN q).setCell ⟨g, p, none⟩ (.string (ix L' m))).setCell ⟨g, m, none⟩ (.string (ix L' p)))) := Lib.hid fun q => ((only_drewN HO.out q).trans (Only.set _ ⟨g, p, none⟩ _ (.inl rfl))).trans (Only.set _ ⟨g, m, none⟩ _ (.inl rfl))
      have hne2 : ((m : Int) != (p : Int)) = true := by rw [bne_iff_ne]; omega
      clear HC HR HO HF HS
      go_wp2_with fail
      refine KS.out.mono ?_
      rintro e w4 ⟨rfl, nd2, rfl⟩
      have HR4 := Lib.hid (HRW.out nd2)
      have HC4 := Lib.hid (HCW.out nd2)
      have HO4 := Lib.hid (HOW.out nd2)
      clear HRW HCW HOW KS
      generalize ((wr.drewN nd2).setCell ⟨g, p, none⟩ (.string (ix L' m))).setCell ⟨g, m, none⟩ (.string (ix L' p)) = w4 at HR4 HC4 HO4 ⊢
      go_wp2_with fail
      refine (firstOf_any hb g k c _ m w4 HX.out.1 (by omega) hmk HC4.out HR4.out).mono ?_
      rintro e w5 ⟨m2, rfl, hf2, nd3, rfl⟩
      go_wp2
      go_roundw
      case rel => exact ⟨m, m2, _, rfl, rfl, hmk, HC4.out.drewN _, HR4.out.drewN _, HX, hf2, only_drewN HO4.out _⟩
      case measure => simp [intOf]; omega
end Go.Proofs.YtcaknhoaoodbfaaGreatDoor

/- The contract of strings.Builder's copyCheck at this dump. -/
namespace Go.Proofs.YtcaknhoaoodbfaaGreatDoor
open Go.ChangeShapes Go.WideShapes Go.ChangeAt Go.RowKit Go.Shelf
set_option linter.unusedVariables false

theorem sizeBuilder : (Tryz.prog.info? 176).map (·.size) = some 2 := by kernel_rfl
theorem liesBuilder : liesAt Tryz.prog Tryz.prog.depth 176 (2 / Tryz.prog.cellsOf 176) 0 176 1 = true := by kernel_rfl
theorem neBuilder : (176 : Nat) ≠ 5 := by decide
abbrev IsB (w : World) (B b : Nat) (bs : List Value) : Prop := Lib.IsBuilderF 176 5 B b bs w
abbrev AtB (w : World) (B b : Nat) (bs : List Value) : Prop := Lib.BuilderAtF 176 5 B b (.pointer (some ⟨b, 0, none⟩)) bs w
abbrev KeptB (b : Nat) (w w' : World) : Prop := Lib.OthersKept 5 (some b) w w'

set_option maxRecDepth 100000 in
theorem copyCheck_used (b : Nat) (w : World) (h0 : w.cell? ⟨b, 0, none⟩ = some (.pointer (some ⟨b, 0, none⟩))) :
    Calls Tryz.prog 208 #[.pointer (some ⟨b, 0, none⟩)] w fun e w' => e = .returned (.tuple #[]) ∧ w' = w := by
  obtain ⟨j, hj, _⟩ := Option.map_eq_some_iff.1 sizeBuilder
  have hn := Lib.run_neq_ptr_same (P := Tryz.prog) w ⟨b, 0, none⟩ Tryz.underlying174 hj
  go_enter Tryz.func208, Tryz.ntmps208
  go_wp2
  go_end0
  exact ⟨rfl, rfl⟩

set_option maxRecDepth 100000 in
theorem copyCheck_fresh (b : Nat) (w : World) (h0 : w.cell? ⟨b, 0, none⟩ = some (.pointer none)) (hsh : w.shape? b = some (176, 2)) (hfz : w.frozen? ⟨b, 0, none⟩ = false) :
    Calls Tryz.prog 208 #[.pointer (some ⟨b, 0, none⟩)] w fun e w' => e = .returned (.tuple #[]) ∧ w' = w.setCell ⟨b, 0, none⟩ (.pointer (some ⟨b, 0, none⟩)) := by
  obtain ⟨j, hj, hjs⟩ := Option.map_eq_some_iff.1 sizeBuilder
  have h1 := Lib.run_to_unsafe (P := Tryz.prog) w ⟨b, 0, none⟩ Tryz.underlying174 Tryz.underlying249 hj (by rw [hjs]; decide) hsh (Nat.zero_lt_succ 1)
  have h2 := @run_callFunc_extern Tryz.prog 229 _ Extern.AbiNoEscape.same Tryz.func229 (by kernel_rfl) (by kernel_rfl) (by kernel_rfl) (by kernel_rfl)
  have h3 := Lib.run_noEscape (P := Tryz.prog) (w := w)
  have h4 := Lib.run_from_unsafe (P := Tryz.prog) w ⟨b, 0, none⟩ Tryz.underlying249 Tryz.underlying174 hj hsh liesBuilder
  go_enter Tryz.func208, Tryz.ntmps208
  go_wp2
  go_end0
  exact ⟨rfl, rfl⟩

theorem copyCheck_any (B b : Nat) (bs : List Value) (w : World) (h : IsB w B b bs) :
    Calls Tryz.prog 208 #[.pointer (some ⟨b, 0, none⟩)] w fun e w' => e = .returned (.tuple #[]) ∧ AtB w' B b bs ∧ Below B w w' ∧ KeptB b w w' := by
  rcases h with h | h
  · refine (copyCheck_fresh b w h.cell0 h.shape h.frozen0).mono ?_
    rintro e w' ⟨rfl, rfl⟩
    exact ⟨rfl, h.used _, (Below.refl B w).setCell (p := ⟨b, 0, none⟩) h.1 _, (Lib.OthersKept.refl _ _ w).setCell ⟨b, 0, none⟩ rfl _⟩
  · refine (copyCheck_used b w h.cell0).mono ?_
    rintro e w' ⟨rfl, rfl⟩
    exact ⟨rfl, h, Below.refl B _, Lib.OthersKept.refl _ _ _⟩

end Go.Proofs.YtcaknhoaoodbfaaGreatDoor

/- The contract of strings.Builder's WriteString at this dump. -/
namespace Go.Proofs.YtcaknhoaoodbfaaGreatDoor
open Go.ChangeShapes Go.WideShapes Go.ChangeAt Go.RowKit Go.Shelf
set_option linter.unusedVariables false

theorem byteInfoB : (Tryz.prog.info? 5).map (fun i => (i.zero, i.size, i.bytes)) = some (some (.int .u8 0), 1, 1) := by kernel_rfl
/-- behind a string written: the builder has its bytes behind its own -/
def WroteS (w : World) (B b : Nat) (bs : List Value) (s : ByteArray) (e : Ending) (w' : World) : Prop :=
  e = .returned (.tuple #[.int .i64 s.size, .nilIface]) ∧ AtB w' B b (bs ++ Lib.strCells s) ∧ Below B w w' ∧ KeptB b w w'

set_option maxHeartbeats 1600000 in
set_option maxRecDepth 100000 in
theorem writeString_any (B b : Nat) (bs : List Value) (s : ByteArray) (w : World) (h : IsB w B b bs) (hlen : bs.length ≤ 1000000000) (hs : s.size ≤ 100000000) (hBw : B ≤ w.heap.size) :
    Calls Tryz.prog 161 #[.pointer (some ⟨b, 0, none⟩), .string s] w (WroteS w B b bs s) := by
  obtain ⟨i0, hi, hz0, hz1, hz2⟩ := info_parts byteInfoB
  have HI := Lib.hid h
  clear h
  go_enter Tryz.func161, Tryz.ntmps161
  go_wp2_with fail
  refine (copyCheck_any B b bs _ HI.out).mono ?_
  rintro e w1 ⟨rfl, h1, hb1, hk1⟩
  obtain ⟨hB, v, hbk, hown, hne⟩ := h1
  obtain ⟨ao, cap, rfl⟩ : ∃ ao cap, v = .slice ao bs.length cap := by
    rcases hown.2 with ⟨hv, h0⟩ | ⟨g, cap, cur, fz, hv, _⟩
    · exact ⟨none, 0, by rw [hv, h0]⟩
    · exact ⟨_, _, hv⟩
  have c1 : w1.cell? ⟨b, 1, none⟩ = some (.slice ao bs.length cap) := by rw [Lib.cell_of_heap hbk]; rfl
  have HOWN := Lib.hid hown
  have HNE := Lib.hid hne
  have HBK := Lib.hid hbk
  have HK1 := Lib.hid hk1
  have HB1 := Lib.hid hb1
  clear hown hne hbk hk1 hb1
  go_wp2_with (at_builtin; refine Lib.wpList_append_own_stringF _ rfl _ _ 22 9 rfl B 5 i0 Tryz.underlying22 Tryz.underlying9 hi hz0 hz1 hz2 _ bs.length bs rfl HOWN.out s rfl (by unfold maxLen; omega) (by omega) (by have := HB1.out.size; omega) ?_)
  intro v' w2 hown' hgrow _
  have hlt : b < w1.heap.size := by
    rcases Nat.lt_or_ge b w1.heap.size with h' | h'
    · exact h'
    · have := HBK.out
      simp [Array.getElem?_eq_none h'] at this
  have hb2 : w2.heap[b]? = some (.cells #[.pointer (some ⟨b, 0, none⟩), .slice ao bs.length cap] 176 (0, 0)) := by
    rw [hgrow.block b hlt (fun e => HNE.out e.symm)]
    exact HBK.out
  have d1 : w2.cell? ⟨b, 1, none⟩ = some (.slice ao bs.length cap) := by rw [Lib.cell_of_heap hb2]; rfl
  have f1 : w2.frozen? ⟨b, 1, none⟩ = false := Lib.frozen_of_heap hb2 1
  obtain ⟨a', cap', rfl⟩ : ∃ a' cap', v' = .slice a' (bs.length + s.size) cap' := by
    rcases hown'.2 with ⟨hv, h0⟩ | ⟨g, cap', cur, fz, hv, _⟩
    · exact ⟨none, 0, by rw [hv, h0]⟩
    · exact ⟨_, _, hv⟩
  have HO2 := Lib.hid hown'
  have HG := Lib.hid hgrow
  have HB2 := Lib.hid hb2
  clear hown' hgrow hb2 c1
  go_wp2
  go_ret2
  refine ⟨rfl, ?_, ?_, (HK1.out.grown HG.out (Lib.ownsRowF_kind HOWN.out)).setCell ⟨b, 1, none⟩ rfl _⟩
  · have := HO2.out
    exact Lib.BuilderAtF.put hB HB2.out (bs' := bs ++ Lib.strCells s) (by rw [List.length_append, Lib.strCells_length]; exact this) neBuilder
  · exact (HB1.out.grown HG.out (by have := HB1.out.size; omega) (fun k hk => (HOWN.out.lt k hk).1)).setCell (p := ⟨b, 1, none⟩) hB _
end Go.Proofs.YtcaknhoaoodbfaaGreatDoor
