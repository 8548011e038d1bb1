/- The laws' draws of bent trees: the tree is of its own. -/
import Derived.Test.YtcaknhoaoodbfaaGreatDoorGP13
import Derived.Test.YtcaknhoaoodbfaaGreatDoorGP11
import Derived.Test.YtcaknhoaoodbfaaGreatDoorGP10
import Derived.Test.YtcaknhoaoodbfaaGreatDoorGP9
import Derived.Test.YtcaknhoaoodbfaaGreatDoorGP1
import Derived.IntWalk
import Derived.Lib.IndexBytes
import Derived.Test.YtcaknhoaoodbfaaGreatDoorGP3
import Derived.Test.YtcaknhoaoodbfaaGreatDoorGP0
import Derived.Laws.IdiomStrings
namespace Go.Proofs.YtcaknhoaoodbfaaGreatDoor
open Go.ChangeShapes Go.WideShapes Go.ChangeAt Go.RowKit
set_option linter.unusedVariables false
def BentOwn (w : World) (b : Nat) (e : Ending) (w' : World) : Prop := ∃ (x : Option Addr) (m q : Nat) (l : List It), e = .returned (.slice x m q) ∧ OwnIts w' w.heap.size w'.heap.size x m q l ∧ BentIts l ∧ w.grownBy w' (some b)
set_option maxRecDepth 100000 in
set_option maxHeartbeats 12800000 in
theorem l4BentO_any (b : Nat) (a : Option Addr) (n c : Nat) (xs : List Int) (k : Nat) (hk : k + 4000 < 1000000) (w : World) (h : Src w b a n c xs k) :
    Calls Tryz.prog 59 #[.pointer (some ⟨b, 0, none⟩)] w (BentOwn w b) := by
  obtain ⟨i0, hi, hz0, hi1, hz2⟩ := info_parts itemInfo
  obtain ⟨j0, hj, hjz0, hj1, hjz2⟩ := info_parts attrInfo
  unfold BentOwn
  have hblt := h.lt
  have KT := Lib.hid (l4Draw_any b a n c xs k 10 (by decide) (by decide) (by omega) w h)
  unfold TreeDrawn at KT
  simp only [show ((10 : Nat) : Int) = 10 from rfl] at KT
  have KN := Lib.hid (fun (k : Nat) (m : Int) (hm0 : 1 ≤ m) (hm : m ≤ 1000000000) (hk : k < 1000000) (W : World) (h : Src W b a n c xs k) => l1Next_any b a n c xs k m hm0 hm hk W h)
  unfold NextRes at KN
  clear h
  go_enter Tryz.func59, Tryz.ntmps59
  go_wp2_with fail
  refine KT.out.mono ?_
  rintro e w1 ⟨x, m, q, l, A, N, C, k1, rfl, hg1, hm1, hm10, hD, hk1, hs1, hgr1⟩
  obtain ⟨bo, cap, cur, hv, hbo1, _⟩ := hg1.row.2.resolve_left (by omega)
  simp only [Value.slice.injEq] at hv
  obtain ⟨rfl, _, rfl⟩ := hv
  have HB := Lib.hid (drawn_bent hD hg1.g.len (by omega))
  have HD := Lib.hid hD
  have G1 := Lib.hid hg1
  have S1 := Lib.hid hs1
  have E1 := Lib.hid hgr1
  clear hg1 hs1 hgr1 hD
  go_wp2_with fail
  refine (KN.out k1 m (by omega) (by omega) (by omega) _ S1.out).mono ?_
  rintro e w2 ⟨r, rfl, hr, hs2, hg2⟩
  have hr := hr (by omega)
  have hrn : r < m := by omega
  have G2 := Lib.hid (G1.out.far hg2 hblt)
  have S2 := Lib.hid hs2
  have E2 := Lib.hid (grown_trans_row E1.out hg2)
  clear hs2 hg2
  go_wp2_with fail
  refine (KN.out (k1 + 1) 18 (by decide) (by decide) (by omega) _ S2.out).mono ?_
  rintro e w3 ⟨z, rfl, hz, hs3, hg3⟩
  have hz := hz (by decide)
  have G3 := Lib.hid (G2.out.far hg3 hblt)
  have S3 := Lib.hid hs3
  have E3 := Lib.hid (grown_trans_row E2.out hg3)
  clear hs3 hg3
  have hzn : (0 : Int) ≤ (z : Int) := by omega
  generalize (z : Int) = t at hz hzn ⊢
  have hsz3 : w.heap.size ≤ w3.heap.size := E3.out.size
  have hbolt : bo < w3.heap.size := (G3.out.row.lt bo rfl).2
  have fz : ∀ j, w3.frozen? ⟨bo, j, none⟩ = false := fun j => G3.out.row.frozenAt j
  have FZ := Lib.hid fz
  clear fz
  by_cases t0 : t = 0
  · subst t0
    go_wp2_with fail
    refine (l1Pick_any b a n c xs (k1 + 1 + 1) w3.heap.size 5 _ rfl (by decide) (by decide) (by omega) _ (S3.out.alloc _) (lit_row w3 _ .i64 [-1, 0, 1, 6, 7] 5 rfl (by decide)) (by omega)).mono ?_
    rintro e w4 ⟨d, rfl, hdm, hs4, hg4⟩
    have hd : -1 ≤ d ∧ d ≤ 7 := by
      simp only [List.mem_cons, List.not_mem_nil, or_false] at hdm
      omega
    have G4 := Lib.hid ((G3.out.below (below1 w3 _)).far hg4 hblt)
    have E4 := Lib.hid (grown_trans_row (step_below E3.out (below1 w3 _)) hg4)
    have p0 : w4.cell? ⟨bo, r * 5, none⟩ = _ := G4.out.cellAt r 0 hrn (by decide)
    have f0 : w4.frozen? ⟨bo, r * 5, none⟩ = false := G4.out.row.frozenAt (r * 5 + 0)
    clear hs4 hg4 hdm
    go_wp2
    go_ret
    have hb := HB.out.2 r
    have R := its_field_o (f := 0) (u := .int .i64 d) G4.out HB.out hrn (by decide) (y := ⟨d, (l.getD r dIt).text, (l.getD r dIt).space, (l.getD r dIt).name, (l.getD r dIt).attrs⟩) ⟨hd, hb.sizes, hb.few, hb.short⟩ (by rfl) (.inl rfl) (.inr rfl) (.inr rfl) (.inr rfl) rfl
    exact ⟨_, _, _, _, rfl, R.1, R.2, bent_end E4.out hbo1 (grown_set w4 _ _)⟩
  by_cases t1 : t = 1
  · subst t1
    have p0 := G3.out.cellAt r 1 hrn (by decide)
    have f0 := FZ.out (r * 5 + 1)
    go_wp2
    go_ret
    have hb := HB.out.2 r
    have R := its_field_o (f := 1) (u := .string ⟨#[116]⟩) G3.out HB.out hrn (by decide) (y := ⟨(l.getD r dIt).depth, ⟨#[116]⟩, (l.getD r dIt).space, (l.getD r dIt).name, (l.getD r dIt).attrs⟩) ⟨hb.depth, ⟨show (⟨#[116]⟩ : ByteArray).size ≤ 60 by decide, hb.sizes.2.1, hb.sizes.2.2⟩, hb.few, hb.short⟩ (by rfl) (.inr rfl) (.inl rfl) (.inr rfl) (.inr rfl) rfl
    exact ⟨_, _, _, _, rfl, R.1, R.2, bent_end E3.out hbo1 (grown_set w3 _ _)⟩
  by_cases t2 : t = 2
  · subst t2
    have p0 := G3.out.cellAt r 3 hrn (by decide)
    have f0 := FZ.out (r * 5 + 3)
    go_wp2
    go_ret
    have hb := HB.out.2 r
    have R := its_field_o (f := 3) (u := .string ⟨#[49]⟩) G3.out HB.out hrn (by decide) (y := ⟨(l.getD r dIt).depth, (l.getD r dIt).text, (l.getD r dIt).space, ⟨#[49]⟩, (l.getD r dIt).attrs⟩) ⟨hb.depth, ⟨hb.sizes.1, hb.sizes.2.1, show (⟨#[49]⟩ : ByteArray).size ≤ 60 by decide⟩, hb.few, hb.short⟩ (by rfl) (.inr rfl) (.inr rfl) (.inr rfl) (.inl rfl) rfl
    exact ⟨_, _, _, _, rfl, R.1, R.2, bent_end E3.out hbo1 (grown_set w3 _ _)⟩
  by_cases t3 : t = 3
  · subst t3
    have p0 := G3.out.cellAt r 2 hrn (by decide)
    have f0 := FZ.out (r * 5 + 2)
    go_wp2
    go_ret
    have hb := HB.out.2 r
    have R := its_field_o (f := 2) (u := .string ⟨#[1]⟩) G3.out HB.out hrn (by decide) (y := ⟨(l.getD r dIt).depth, (l.getD r dIt).text, ⟨#[1]⟩, (l.getD r dIt).name, (l.getD r dIt).attrs⟩) ⟨hb.depth, ⟨hb.sizes.1, show (⟨#[1]⟩ : ByteArray).size ≤ 60 by decide, hb.sizes.2.2⟩, hb.few, hb.short⟩ (by rfl) (.inr rfl) (.inr rfl) (.inl rfl) (.inr rfl) rfl
    exact ⟨_, _, _, _, rfl, R.1, R.2, bent_end E3.out hbo1 (grown_set w3 _ _)⟩
  by_cases t4 : t = 4
  · subst t4
    have p0 := G3.out.cellAt r 4 hrn (by decide)
    have hlr : r < l.length := by have := G3.out.g.len; omega
    have hfew : (l.getD r dIt).attrs.length ≤ 5 := (HD.out r).few
    have hNr : (l.getD r dIt).attrs.length = N r := (G3.out.g.ats r hlr).1.ats.len
    obtain ⟨es, hes⟩ : ∃ es, (l.getD r dIt).attrs = es := ⟨_, rfl⟩
    have RW := Lib.hid (G3.out.rows r hlr)
    have OF := Lib.hid (fun j e => G3.out.off r hlr j e)
    rw [cellI_at r 4 (by decide)] at p0
    simp only [show ¬ ((4 : Nat) = 0) by decide, show ¬ ((4 : Nat) = 1) by decide, show ¬ ((4 : Nat) = 2) by decide, show ¬ ((4 : Nat) = 3) by decide, if_false] at p0
    have hs0 := (HD.out r).short
    rw [hes] at RW hs0 hfew hNr
    have HSS := Lib.hid hs0
    clear hs0
    go_wp2_with (at_builtin; refine wpList_append_own_at _ rfl _ _ 62 rfl w.heap.size 65 j0 (.agg #[.string ByteArray.empty, .string ByteArray.empty]) 2 32 Tryz.underlying62 hj hjz0 hj1 hjz2 rfl (by decide) _ (N r) _ rfl (owns_below RW.out (below1 _ _)) ⟨w3.heap.size, 0, none⟩ 1 1 [.string ⟨#[97]⟩, .string ⟨#[]⟩] rfl rfl ?c1 ?c2 ?c3 ?c4 ?c5 ?_)
    case c1 => exact attCells w3 _ _
    case c2 => intro v hv; simp at hv; rcases hv with rfl | rfl <;> rfl
    case c3 => unfold maxLen; omega
    case c4 => omega
    case c5 => simp; omega
    intro v' w4 hown' hgr4 _ hat
    obtain ⟨a8, c8, rfl⟩ := owns_slice hown'
    have hown8 : w4.ownsRow w.heap.size 65 2 (.slice a8 (N r + 1) c8) (N r + 1) (flatA (es ++ [⟨⟨#[97]⟩, ⟨#[]⟩⟩])) := by rw [flatA_snoc]; exact hown'
    have R := its_attrs_o (es := es ++ [(⟨⟨#[97]⟩, ⟨#[]⟩⟩ : At)]) G3.out HB.out hrn (below1 w3 (.cells #[.string ⟨#[97]⟩, .string ⟨#[]⟩] 65)) hgr4 (fun j e => e) hown8 (fun j e => by
      rcases hat with e2 | e2
      · rw [e2] at e
        intro e3
        subst e3
        exact OF.out j e rfl
      · rw [e2] at e
        simp at e
        omega) (by omega) (sizes_snoc HSS.out (show (⟨#[97]⟩ : ByteArray).size ≤ 60 by decide) (show (⟨#[]⟩ : ByteArray).size ≤ 60 by decide)) (hat.imp id fun e => ⟨_, e, by simp⟩)
    have EE := Lib.hid (step_appended E3.out (Nat.le_refl _) RW.out hgr4)
    have hcell : w4.cell? ⟨bo, r * 5 + 4, none⟩ = some (.slice (A r) (N r) (C r)) := hgr4.cell (((below1 w3 _).cell (by exact hbolt)).trans p0) (fun e => OF.out bo e.symm rfl)
    have hfr : w4.frozen? ⟨bo, r * 5 + 4, none⟩ = false := ((Only.grown hgr4).frozen (p := ⟨bo, r * 5 + 4, none⟩) (by simp; omega) (fun e => OF.out bo e.symm rfl)).trans (((below1 w3 _).frozen (by exact hbolt)).trans (FZ.out _))
    have RR := Lib.hid R
    clear R hown8 hat hown' hgr4
    go_wp2
    go_ret
    exact ⟨_, _, _, _, rfl, RR.out.1, RR.out.2, bent_end EE.out hbo1 (grown_set w4 _ _)⟩
  by_cases t5 : t = 5
  · subst t5
    have p0 := ((below1 w3 (.cells #[.string ⟨#[120, 109, 108, 110, 115]⟩, .string ⟨#[]⟩] 65)).cell (p := ⟨bo, r * 5 + 4, none⟩) (by exact hbolt)).trans (G3.out.cellAt r 4 hrn (by decide))
    have f0 := ((below1 w3 (.cells #[.string ⟨#[120, 109, 108, 110, 115]⟩, .string ⟨#[]⟩] 65)).frozen (p := ⟨bo, r * 5 + 4, none⟩) (by exact hbolt)).trans (FZ.out (r * 5 + 4))
    go_wp2
    go_ret
    have hown := World.ownsRow_lit (base := w.heap.size) (e := 65) (size := 2) w3 #[.string ⟨#[120, 109, 108, 110, 115]⟩, .string ⟨#[]⟩] 1 (by omega) (by unfold maxLen; omega) rfl
    have R := its_attrs_o (es := [⟨⟨#[120, 109, 108, 110, 115]⟩, ⟨#[]⟩⟩]) (row := none) G3.out HB.out hrn (below1 w3 (.cells #[.string ⟨#[120, 109, 108, 110, 115]⟩, .string ⟨#[]⟩] 65)) (World.grownBy.refl _ _) (fun j e => by cases e) hown (fun j e => by simp only [Value.ownBlock, Option.some.injEq] at e; omega) (by decide) (sizes_snoc (es := []) (fun i => by simp [dAt]) (by decide) (by decide)) (.inr ⟨_, rfl, Nat.le_refl _⟩)
    have ew := World.setCell_alloc_past (w := w3) (.cells #[.string ⟨#[120, 109, 108, 110, 115]⟩, .string ⟨#[]⟩] 65) bo (r * 5 + 4) (.slice (some ⟨w3.heap.size, 0, none⟩) 1 1) hbolt
    rw [← ew]
    exact ⟨_, _, _, _, rfl, R.1, R.2, bent_end (step_below E3.out (below1 w3 _)) hbo1 (grown_set _ _ _)⟩
  by_cases t6 : t = 6
  · subst t6
    have p0 := G3.out.cellAt r 3 hrn (by decide)
    have f0 := FZ.out (r * 5 + 3)
    go_wp2
    go_ret
    have hb := HB.out.2 r
    have R := its_field_o (f := 3) (u := .string ⟨#[]⟩) G3.out HB.out hrn (by decide) (y := ⟨(l.getD r dIt).depth, (l.getD r dIt).text, (l.getD r dIt).space, ⟨#[]⟩, (l.getD r dIt).attrs⟩) ⟨hb.depth, ⟨hb.sizes.1, hb.sizes.2.1, show (⟨#[]⟩ : ByteArray).size ≤ 60 by decide⟩, hb.few, hb.short⟩ (by rfl) (.inr rfl) (.inr rfl) (.inr rfl) (.inl rfl) rfl
    exact ⟨_, _, _, _, rfl, R.1, R.2, bent_end E3.out hbo1 (grown_set w3 _ _)⟩
  by_cases t7 : t = 7
  · subst t7
    go_wp2_with fail
    refine (l1Pick_any b a n c xs (k1 + 1 + 1) w3.heap.size 2 _ rfl (by decide) (by decide) (by omega) _ (S3.out.alloc _) (lit_row w3 _ .i64 [1, 40] 2 rfl (by decide)) (by omega)).mono ?_
    rintro e w4 ⟨d, rfl, hdm, hs4, hg4⟩
    obtain ⟨kk, rfl, hkk0, hkk⟩ : ∃ kk : Nat, d = (kk : Int) ∧ 0 < kk ∧ kk ≤ 40 := by
      simp only [List.mem_cons, List.not_mem_nil, or_false] at hdm
      rcases hdm with rfl | rfl
      · exact ⟨1, rfl, by decide, by decide⟩
      · exact ⟨40, rfl, by decide, by decide⟩
    have G4 := Lib.hid ((G3.out.below (below1 w3 _)).far hg4 hblt)
    have E4 := Lib.hid (grown_trans_row (step_below E3.out (below1 w3 _)) hg4)
    have hw4 : w3.heap.size ≤ w4.heap.size := by have := hg4.size; simp at this; omega
    clear hs4 hg4 hdm
    go_wp2_with (at_builtin; refine wpList_append_zeros _ rfl _ _ 24 2 rfl w.heap.size 67 i0 (.agg #[.int .i64 0, .string ByteArray.empty, .string ByteArray.empty, .string ByteArray.empty, .slice none 0 0]) 5 80 .i64 .i64 Tryz.underlying24 Tryz.underlying2 hi hz0 hi1 hz2 rfl (by decide) _ m _ rfl G4.out.row (.inl (by omega)) kk rfl hkk0 (zeros_one kk) ?c3 ?c4 ?c5 ?_)
    case c3 => unfold maxLen; omega
    case c4 => omega
    case c5 => omega
    intro v' w5 hown' hgr5 hat
    obtain ⟨a8, c8, rfl⟩ := owns_slice hown'
    have RR := Lib.hid (its_more_o G4.out HB.out (by omega) (zeros_at kk) hown' hgr5 (by omega) hat)
    have EE := Lib.hid (bent_end E4.out hbo1 hgr5)
    clear hown' hgr5 hat
    go_wp2
    go_ret
    exact ⟨_, _, _, _, rfl, RR.out.1, RR.out.2, EE.out⟩
  by_cases t8 : t = 8
  · subst t8
    go_wp2
    go_ret
    exact ⟨none, 0, 0, [], rfl, ⟨rfl, by omega, fun i hi => by omega, .inl rfl⟩, ⟨by simp, fun i => by simpa using dIt_drawn.bent⟩, E3.out⟩
  by_cases t9 : t = 9
  · subst t9
    go_wp2
    go_loopw [3] (fun v wr => ∃ (j cap' : Nat) (x' : Option Addr) (l' : List It) (A' : Nat → Option Addr) (N' C' : Nat → Nat) (k' : Nat), v = .slice x' j cap' ∧ 1 ≤ j ∧ j ≤ 41 ∧ k' ≤ k1 + 2 + j ∧ GrowR wr w.heap.size (.slice x' j cap') j l' A' N' C' ∧ (∀ i, DrawnIt (l'.getD i dIt)) ∧ Src wr b a n c xs k' ∧ w.grownBy wr (some b)) (fun v _ => 41 - lenOfV v)
    case atStart => exact ⟨m, q, _, l, A, N, C, k1 + 1 + 1, rfl, hm1, by omega, by omega, G3.out, HD.out, S3.out, E3.out⟩
    case round =>
      obtain ⟨j, cap', x', l', A', N', C', k', rfl, hj1, hj41, hk', hG, hDD, hS, hE⟩ := hrel
      have GG := Lib.hid hG
      have DD := Lib.hid hDD
      have SS := Lib.hid hS
      have EE := Lib.hid hE
      have hwr : w.heap.size ≤ wr.heap.size := hE.size
      clear hG hDD hS hE
      go_wp2_with fail
      refine (l1Pick_any b a n c xs k' wr.heap.size 2 _ rfl (by decide) (by decide) (by omega) _ (SS.out.alloc _) (lit_row wr _ .i64 [40, 41] 2 rfl (by decide)) (by omega)).mono ?_
      rintro e w4 ⟨d, rfl, hdm, hs4, hg4⟩
      have hd : 40 ≤ d ∧ d ≤ 41 := by
        simp only [List.mem_cons, List.not_mem_nil, or_false] at hdm
        omega
      have G4 := Lib.hid ((GG.out.below (below1 wr _)).far hg4 hblt)
      have S4 := Lib.hid hs4
      have E4 := Lib.hid (grown_trans_row (step_below EE.out (below1 wr _)) hg4)
      have hw4 : wr.heap.size ≤ w4.heap.size := by have := hg4.size; simp at this; omega
      clear hs4 hg4 hdm
      by_cases hjd : (j : Int) < d
      · go_wp2_with (at_builtin; refine wpList_append_own_at _ rfl _ _ 24 rfl w.heap.size 67 i0 (.agg #[.int .i64 0, .string ByteArray.empty, .string ByteArray.empty, .string ByteArray.empty, .slice none 0 0]) 5 80 Tryz.underlying24 hi hz0 hi1 hz2 rfl (by decide) _ j _ rfl (G4.out.row.alloc _) ⟨w4.heap.size, 0, none⟩ 1 1 [.int .i64 1, .string ⟨#[]⟩, .string ⟨#[]⟩, .string ⟨#[122]⟩, .slice none 0 0] rfl rfl ?c1 ?c2 ?c3 ?c4 ?c5 ?_)
        case c1 => exact fun j u hj => itCells w4 _ _ _ _ _ j u hj
        case c2 => intro v hv; simp at hv; rcases hv with rfl | rfl | rfl | rfl <;> rfl
        case c3 => unfold maxLen; omega
        case c4 => omega
        case c5 => simp; omega
        intro v' w8 hown' hgr _ hat
        obtain ⟨a8, c8, rfl⟩ := owns_slice hown'
        have hb8 := below1 w4 (.cells #[.int .i64 1, .string ⟨#[]⟩, .string ⟨#[]⟩, .string ⟨#[122]⟩, .slice none 0 0] 67)
        have G8 := Lib.hid (G4.out.snocO (P := fun i => some i = some b) (x := ⟨1, ⟨#[]⟩, ⟨#[]⟩, ⟨#[122]⟩, []⟩) (Only.below hb8) (fun i hi e => by simp only [Option.some.injEq] at e; omega)
          (noAts0 _ _ _) (noRow0 _ _) (fun _ => rfl) (by omega) hown' hgr (hat.imp id fun e => ⟨w4.heap.size + 1, by simpa using e, by simp⟩))
        have S8 := Lib.hid ((S4.out.below hb8).grown hgr (fun g e => by have := (G4.out.row.lt g e).1; omega))
        have E8 := Lib.hid (step_appended E4.out (Nat.le_refl _) G4.out.row hgr)
        have D8 := Lib.hid (drawn_snoc DD.out (x := ⟨1, ⟨#[]⟩, ⟨#[]⟩, ⟨#[122]⟩, []⟩) ⟨by decide, ⟨by decide, by decide, by decide⟩, by simp, fun i => by simp [dAt]⟩)
        clear hown' hgr hat hb8
        go_wp2
        go_roundw
        case rel => exact ⟨j + 1, c8, a8, _, _, _, _, k' + 1, rfl, by omega, by omega, by omega, G8.out, D8.out, S8.out, E8.out⟩
        case measure => simp [lenOfV]; omega
      · have HI := Lib.hid (GG.out.own (by omega) (drawn_sizes DD.out j))
        have HI4 := Lib.hid (G4.out.own (by omega) (drawn_sizes DD.out j))
        go_wp2
        go_ret
        exact ⟨_, _, _, l', rfl, HI4.out, drawn_bent DD.out GG.out.g.len (by omega), E4.out⟩
  go_wp2
  go_ret
  exact ⟨_, _, _, l, rfl, G3.out.own (by omega) (drawn_sizes HD.out m), HB.out, E3.out⟩
def wordsCode (p : Pr) : Int := if textFault p.sender.data.toList ≠ 0 then textFault p.sender.data.toList else if textFault p.goal.data.toList ≠ 0 then textFault p.goal.data.toList else textFault p.status.data.toList
def fitsB (k0 s0 p0 k1 st : Bool) : Bool := !((k0 && (s0 || p0)) || (k1 && st))
def fits (p : Pr) : Bool := fitsB (p.kind != 0) (p.shown != 0) (p.prio != 0) (decide (1 < p.kind)) (!p.status.toList.isEmpty)
def presCode (p : Pr) : Int :=
  if (inB p.kind 0 6 && inB p.shown 0 4 && inB p.prio (-128) 127) = false then 3
  else if wordsCode p ≠ 0 then wordsCode p
  else if fits p = false then 1
  else moreCode p.more
set_option maxHeartbeats 1600000 in
theorem l7Texts_any (b : Nat) (p : Pr) (a : Option Addr) (n c : Nat) (w : World) (hs : p.sender.size ≤ 1048576 ∧ p.goal.size ≤ 1048576 ∧ p.status.size ≤ 1048576) (h : PrAt w b p a n c) :
    Calls Tryz.prog 81 #[.pointer (some ⟨b, 0, none⟩)] w fun e w' => e = .returned (.int .i64 (wordsCode p)) ∧ Below w.heap.size w w' := by
  obtain ⟨pk, pf, pt, ps, pu, pp, pm⟩ := p
  unfold wordsCode
  dsimp only at hs ⊢
  obtain ⟨hf, ht, hu⟩ := hs
  have K1 := Lib.hid (fun W => specTextFault_any pf (by omega) W)
  have K2 := Lib.hid (fun W => specTextFault_any pt (by omega) W)
  have K3 := Lib.hid (fun W => specTextFault_any pu (by omega) W)
  have H := Lib.hid h
  have d1 := h.c1
  clear h hf ht hu
  generalize textFault pf.data.toList = f1 at K1 ⊢
  generalize textFault pt.data.toList = f2 at K2 ⊢
  generalize textFault pu.data.toList = f3 at K3 ⊢
  by_cases h1 : f1 = 0
  · subst h1
    simp only [ne_eq, not_true_eq_false, if_false]
    by_cases h2 : f2 = 0
    · subst h2
      simp only [not_true_eq_false, if_false]
      go_enter Tryz.func81, Tryz.ntmps81
      go_wp2_with fail
      refine (K1.out _).mono ?_
      rintro e w1 ⟨rfl, hb1⟩
      have B1 := Lib.hid hb1
      have d2 := (H.out.below hb1).c2
      clear d1 hb1
      go_wp2_with fail
      refine (K2.out _).mono ?_
      rintro e w2 ⟨rfl, hb2⟩
      have B2 := Lib.hid (below_then B1.out hb2)
      have d4 := (H.out.below (below_then B1.out hb2)).c4
      clear d2 hb2
      go_wp2_with fail
      refine (K3.out _).mono ?_
      rintro e w3 ⟨rfl, hb3⟩
      have B3 := Lib.hid (below_then B2.out hb3)
      clear hb3 d4
      go_wp2
      go_ret
      exact ⟨rfl, B3.out⟩
    · have q1 : (f2 != 0) = true := by rw [bne_iff_ne]; exact h2
      have q2 : (f2 == 0) = false := by rw [beq_eq_false_iff_ne]; exact h2
      rw [if_pos h2]
      clear h2
      go_enter Tryz.func81, Tryz.ntmps81
      go_wp2_with fail
      refine (K1.out _).mono ?_
      rintro e w1 ⟨rfl, hb1⟩
      have B1 := Lib.hid hb1
      have d2 := (H.out.below hb1).c2
      clear d1 hb1
      go_wp2_with fail
      refine (K2.out _).mono ?_
      rintro e w2 ⟨rfl, hb2⟩
      have B2 := Lib.hid (below_then B1.out hb2)
      clear d2 hb2
      go_wp2
      go_ret
      exact ⟨rfl, B2.out⟩
  · have q1 : (f1 != 0) = true := by rw [bne_iff_ne]; exact h1
    have q2 : (f1 == 0) = false := by rw [beq_eq_false_iff_ne]; exact h1
    rw [if_pos h1]
    clear h1
    go_enter Tryz.func81, Tryz.ntmps81
    go_wp2_with fail
    refine (K1.out _).mono ?_
    rintro e w1 ⟨rfl, hb1⟩
    have B1 := Lib.hid hb1
    clear d1 hb1
    go_wp2
    go_ret
    exact ⟨rfl, B1.out⟩
def sharedS (s : Int) : Int := if s = 2 then 0 else if s = 4 then 1 else s
def prioS (p : Int) : Int := if 0 < p then p else 0
def proj (p : Pr) : Pr := ⟨p.kind, p.sender, ByteArray.empty, sharedS p.shown, p.status, prioS p.prio, []⟩
def zeroPr : Pr := ⟨0, ByteArray.empty, ByteArray.empty, 0, ByteArray.empty, 0, []⟩
def askB (k e : Bool) : Bool := k || e
def projCode (p : Pr) : Int :=
  if presCode p ≠ 0 then presCode p
  else if askB (decide (1 < p.kind)) p.sender.toList.isEmpty = true then 7
  else if 55 < p.sender.size then 2 else 0
def projT (p : Pr) : Pr := if projCode p = 0 then proj p else zeroPr
theorem projT_more (p : Pr) : (projT p).more = [] := by unfold projT; split <;> rfl
theorem presCode_kind {p : Pr} (h : presCode p = 0) : 0 ≤ p.kind ∧ p.kind ≤ 6 := by
  unfold presCode at h
  split at h
  · omega
  · rename_i h1
    rw [Bool.not_eq_false, Bool.and_eq_true, Bool.and_eq_true] at h1
    simpa [inB] using h1.1.1
def digT (n : Nat) : ByteArray := if n < 10 then strOfNums [48 + (n : Int)] else digT (n / 10) ++ strOfNums [48 + (n : Int) % 10]
theorem digT_small {n : Nat} (h : n < 10) : digT n = strOfNums [48 + (n : Int)] := by rw [digT, if_pos h]
theorem digT_big {n : Nat} (h : ¬ n < 10) : digT n = digT (n / 10) ++ strOfNums [48 + (n : Int) % 10] := by rw [digT, if_neg h]
theorem digT_size : ∀ (k n : Nat), n < 10 ^ (k + 1) → (digT n).size ≤ k + 1
  | 0, n, h => by
    rw [digT_small (by simpa using h), strOfNums_size]
    simp
  | k + 1, n, h => by
    by_cases h1 : n < 10
    · rw [digT_small h1, strOfNums_size]
      simp
    · have h2 : n / 10 < 10 ^ (k + 1) := by
        rw [Nat.div_lt_iff_lt_mul (by decide)]
        rw [Nat.pow_succ] at h
        exact h
      have h3 := digT_size k (n / 10) h2
      rw [digT_big h1, ByteArray.size_append, strOfNums_size]
      simp
      omega
theorem digT_size19 {n : Nat} (h : (n : Int) ≤ 9223372036854775807) : (digT n).size ≤ 19 := by
  have h2 : (10 : Nat) ^ (18 + 1) = 10000000000000000000 := by decide
  exact digT_size 18 n (by rw [h2]; omega)
theorem digT_pos (n : Nat) : 1 ≤ (digT n).size := by
  by_cases h : n < 10
  · rw [digT_small h, strOfNums_size]; simp
  · rw [digT_big h, ByteArray.size_append, strOfNums_size]; simp
theorem row1 (W : World) (c : Int) : Row (W.alloc (.cells #[.int .u8 c] 5)) .u8 (.slice (some ⟨W.heap.size, 0, none⟩) 1 1) [c] :=
  .inr ⟨W.heap.size, 0, 1, rfl, by simp, by unfold maxLen; omega, by simp, fun i hi => match i, hi with | 0, _ => by simp⟩
theorem conv1 {W : World} {b : Nat} {c : Int} (h : Row W .u8 (.slice (some ⟨b, 0, none⟩) 1 1) [c]) : (convert 22 9 (.slice (some ⟨b, 0, none⟩) 1 1)).run Tryz.prog W = .ok (.string (strOfNums [c])) W :=
  conv_row (P := Tryz.prog) W Tryz.underlying22 Tryz.underlying5 Tryz.underlying9 h
def TextB (s : ByteArray) (w : World) (e : Ending) (w' : World) : Prop := e = .returned (.string s) ∧ Below w.heap.size w w'
set_option maxRecDepth 100000 in
set_option maxHeartbeats 800000 in
theorem l1Digits_any (n : Nat) : (n : Int) ≤ 9223372036854775807 → ∀ w, Calls Tryz.prog 185 #[.int .i64 n] w (TextB (digT n) w) := by
  induction n using Nat.strongRecOn with
  | ind n ih =>
    intro hb w
    unfold TextB
    by_cases h : n < 10
    · rw [digT_small h]
      have h' : (n : Int) < 10 := by omega
      have hcv := conv1 (row1 w (48 + (n : Int)))
      clear ih hb h
      go_enter Tryz.func185, Tryz.ntmps185
      go_wp2
      go_ret
      exact ⟨rfl, below1 _ _⟩
    · have K := Lib.hid (ih (n / 10) (by omega) (by omega))
      unfold TextB at K
      rw [digT_big h]
      have e : ((n / 10 : Nat) : Int) = (n : Int) / 10 := by omega
      rw [e] at K
      have hsz := digT_size19 (n := n / 10) (by omega)
      generalize digT (n / 10) = t at K hsz ⊢
      have h' : 10 ≤ (n : Int) := by omega
      have q1 : 0 ≤ (n : Int) % 10 := by omega
      have q2 : (n : Int) % 10 < 10 := by omega
      have hs1 : (strOfNums [48 + (n : Int) % 10]).size ≤ 1 := by rw [strOfNums_size]; simp
      have hr0 := Lib.hid (row1 w (48 + (n : Int) % 10))
      have hcv0 := conv1 (W := (w.alloc (.cells #[.int .u8 (48 + (n : Int) % 10)] 5)).drew) (hr0.out.drewN 1)
      have k1 : IntKind.i64.wrap ((n : Int) / 10) = (n : Int) / 10 := IntWalk.i64_in _ (by omega)
      have k2 : (n : Int).tmod 10 = (n : Int) % 10 := Int.tmod_eq_emod_of_nonneg (by omega)
      have k3 : IntKind.i64.wrap (48 + (n : Int) % 10) = 48 + (n : Int) % 10 := IntWalk.i64_in _ (by omega)
      have k4 : IntKind.u8.wrap (48 + (n : Int) % 10) = 48 + (n : Int) % 10 := IntWalk.u8_in _ (by omega)
      clear ih h e
      go_enter Tryz.func185, Tryz.ntmps185
      go_wp2
      go_region_with (go_at_call 185; refine (K.out _).mono ?_; rintro e w1 ⟨rfl, hb1⟩; have hcv1 := conv1 (row1 w1 (48 + (n : Int) % 10)); try (have hcv2 := conv1 ((hr0.out.drewN 1).below hb1)))
      all_goals
        go_wp2
        go_ret
        first
          | exact ⟨rfl, (below_of_drew hb1).alloc (below_of_drew hb1).size _⟩
          | exact ⟨rfl, ((below1 w _).drew).trans (hb1.mono (by simp))⟩
theorem dig_data (x : Nat) (h : x < 10) : (strOfNums [48 + (x : Int)]).data.toList = [UInt8.ofNat (48 + x)] := by
  rw [strOfNums_data]
  simp only [List.map_cons, List.map_nil]
  rw [show (48 + (x : Int)).toNat = 48 + x by omega]
theorem digT_data {n : Nat} (h : ¬ n < 10) : (digT n).data.toList = (digT (n / 10)).data.toList ++ [UInt8.ofNat (48 + n % 10)] := by
  rw [digT_big h, ByteArray.data_append, Array.toList_append]
  have e : (48 + (n : Int) % 10) = 48 + ((n % 10 : Nat) : Int) := by omega
  rw [e, dig_data _ (by omega)]
def behindT (s : ByteArray) : ByteArray := s.extract 1 s.size
def shareT (n : Nat) : ByteArray := digT (n / 1000) ++ ⟨#[46]⟩ ++ behindT (digT (1000 + n % 1000))
def shareCode (n : Int) : Int := if inB n 0 1000 then 0 else 3
def shareText (n : Int) : ByteArray := if inB n 0 1000 then shareT n.toNat else ByteArray.empty
theorem behind_2000 : behindT (digT 2000) = behindT (digT 1000) := by
  rw [digT_big (n := 2000) (by decide), digT_big (n := 2000 / 10) (by decide), digT_big (n := 2000 / 10 / 10) (by decide), digT_small (n := 2000 / 10 / 10 / 10) (by decide)]
  rw [digT_big (n := 1000) (by decide), digT_big (n := 1000 / 10) (by decide), digT_big (n := 1000 / 10 / 10) (by decide), digT_small (n := 1000 / 10 / 10 / 10) (by decide)]
  decide +kernel
theorem behind_share (n : Nat) (h : n ≤ 1000) : behindT (digT (1000 + n)) = behindT (digT (1000 + n % 1000)) := by
  by_cases h1 : n < 1000
  · rw [Nat.mod_eq_of_lt h1]
  · obtain rfl : n = 1000 := by omega
    exact behind_2000
def thouCode (p : Int) : Int := if inB p 0 127 then 0 else 3
def thouVal (p : Int) : Int := if inB p 0 127 then (1000 * p + 63) / 127 else 0
def prioCode (n : Int) : Int := if inB n 0 1000 then 0 else 3
def prioVal (n : Int) : Int := if inB n 0 1000 then (127 * n + 500) / 1000 else 0
def pidfSp : ByteArray := ⟨#[117, 114, 110, 58, 105, 101, 116, 102, 58, 112, 97, 114, 97, 109, 115, 58, 120, 109, 108, 58, 110, 115, 58, 112, 105, 100, 102]⟩
def rpidSp : ByteArray := ⟨#[117, 114, 110, 58, 105, 101, 116, 102, 58, 112, 97, 114, 97, 109, 115, 58, 120, 109, 108, 58, 110, 115, 58, 112, 105, 100, 102, 58, 114, 112, 105, 100]⟩
def presNm : ByteArray := ⟨#[112, 114, 101, 115, 101, 110, 99, 101]⟩
def entityNm : ByteArray := ⟨#[101, 110, 116, 105, 116, 121]⟩
def presP : ByteArray := ⟨#[112, 114, 101, 115, 58]⟩
def tupleNm : ByteArray := ⟨#[116, 117, 112, 108, 101]⟩
def idNm : ByteArray := ⟨#[105, 100]⟩
def tT : ByteArray := ⟨#[116]⟩
def stNm : ByteArray := ⟨#[115, 116, 97, 116, 117, 115]⟩
def basicNm : ByteArray := ⟨#[98, 97, 115, 105, 99]⟩
def openT : ByteArray := ⟨#[111, 112, 101, 110]⟩
def closedT : ByteArray := ⟨#[99, 108, 111, 115, 101, 100]⟩
def actNm : ByteArray := ⟨#[97, 99, 116, 105, 118, 105, 116, 105, 101, 115]⟩
def awayNm : ByteArray := ⟨#[97, 119, 97, 121]⟩
def busyNm : ByteArray := ⟨#[98, 117, 115, 121]⟩
def contNm : ByteArray := ⟨#[99, 111, 110, 116, 97, 99, 116]⟩
def prioKey : ByteArray := ⟨#[112, 114, 105, 111, 114, 105, 116, 121]⟩
def xmppP : ByteArray := ⟨#[120, 109, 112, 112, 58]⟩
def noteNm : ByteArray := ⟨#[110, 111, 116, 101]⟩
def elemI (d : Int) (sp nm : ByteArray) (es : List At) : It := ⟨d, ⟨#[]⟩, sp, nm, es⟩
def textI (d : Int) (t : ByteArray) : It := ⟨d, t, ⟨#[]⟩, ⟨#[]⟩, []⟩
def basicW (k : Int) : ByteArray := if k = 1 then closedT else openT
def actW (s : Int) : ByteArray := if s = 3 then busyNm else awayNm
def rootP8 (f : ByteArray) : It := elemI 0 pidfSp presNm [⟨entityNm, presP ++ f⟩]
def headP8 (f : ByteArray) (k : Int) : List It := [rootP8 f, elemI 1 pidfSp tupleNm [⟨idNm, tT⟩], elemI 2 pidfSp stNm [], elemI 3 pidfSp basicNm [], textI 4 (basicW k)]
def actsP8 (s : Int) : List It := if s = 0 then [] else [elemI 2 rpidSp actNm [], elemI 3 rpidSp (actW s) []]
def contP8 (f : ByteArray) (p : Int) : List It := if p = 0 then [] else [elemI 2 pidfSp contNm [⟨prioKey, shareText (thouVal p)⟩], textI 3 (xmppP ++ f)]
def noteP8 (u : ByteArray) : List It := if u.toList.isEmpty then [] else [elemI 2 pidfSp noteNm [], textI 3 u]
def pidfL (q : Pr) : List It := ((headP8 q.sender q.kind ++ actsP8 q.shown) ++ contP8 q.sender q.prio) ++ noteP8 q.status
def pidfT (p : Pr) : List It := if projCode p = 0 then pidfL (proj p) else []
def kindWs : List ByteArray := [⟨#[]⟩, ⟨#[117, 110, 97, 118, 97, 105, 108, 97, 98, 108, 101]⟩, ⟨#[115, 117, 98, 115, 99, 114, 105, 98, 101]⟩, ⟨#[115, 117, 98, 115, 99, 114, 105, 98, 101, 100]⟩, ⟨#[117, 110, 115, 117, 98, 115, 99, 114, 105, 98, 101]⟩, ⟨#[117, 110, 115, 117, 98, 115, 99, 114, 105, 98, 101, 100]⟩, ⟨#[112, 114, 111, 98, 101]⟩]
def kindW (k : Int) : ByteArray := kindWs.getD k.toNat ByteArray.empty
def showWs : List ByteArray := [⟨#[]⟩, ⟨#[97, 119, 97, 121]⟩, ⟨#[99, 104, 97, 116]⟩, ⟨#[100, 110, 100]⟩, ⟨#[120, 97]⟩]
def showW (k : Int) : ByteArray := showWs.getD k.toNat ByteArray.empty
theorem kinds_row {w w' : World} (hz : w.heap.size < w'.heap.size) (c0 : w'.cell? ⟨w.heap.size, 0, none⟩ = some (.string (kindWs.getD 0 ByteArray.empty))) (c1 : w'.cell? ⟨w.heap.size, 1, none⟩ = some (.string (kindWs.getD 1 ByteArray.empty))) (c2 : w'.cell? ⟨w.heap.size, 2, none⟩ = some (.string (kindWs.getD 2 ByteArray.empty))) (c3 : w'.cell? ⟨w.heap.size, 3, none⟩ = some (.string (kindWs.getD 3 ByteArray.empty)))
    (c4 : w'.cell? ⟨w.heap.size, 4, none⟩ = some (.string (kindWs.getD 4 ByteArray.empty))) (c5 : w'.cell? ⟨w.heap.size, 5, none⟩ = some (.string (kindWs.getD 5 ByteArray.empty))) (c6 : w'.cell? ⟨w.heap.size, 6, none⟩ = some (.string (kindWs.getD 6 ByteArray.empty))) : RowS w' (.slice (some ⟨w.heap.size, 0, none⟩) 7 7) kindWs := by
  refine .inr ⟨w.heap.size, 0, 7, rfl, by decide, by decide, hz, fun i hi => ?_⟩
  have h7 : i < 7 := hi
  rw [Nat.zero_add]
  match i, h7 with
  | 0, _ => exact c0
  | 1, _ => exact c1
  | 2, _ => exact c2
  | 3, _ => exact c3
  | 4, _ => exact c4
  | 5, _ => exact c5
  | 6, _ => exact c6
theorem shows_row {w w' : World} (hz : w.heap.size < w'.heap.size) (c0 : w'.cell? ⟨w.heap.size, 0, none⟩ = some (.string (showWs.getD 0 ByteArray.empty))) (c1 : w'.cell? ⟨w.heap.size, 1, none⟩ = some (.string (showWs.getD 1 ByteArray.empty))) (c2 : w'.cell? ⟨w.heap.size, 2, none⟩ = some (.string (showWs.getD 2 ByteArray.empty))) (c3 : w'.cell? ⟨w.heap.size, 3, none⟩ = some (.string (showWs.getD 3 ByteArray.empty)))
    (c4 : w'.cell? ⟨w.heap.size, 4, none⟩ = some (.string (showWs.getD 4 ByteArray.empty))) : RowS w' (.slice (some ⟨w.heap.size, 0, none⟩) 5 5) showWs := by
  refine .inr ⟨w.heap.size, 0, 5, rfl, by decide, by decide, hz, fun i hi => ?_⟩
  have h5 : i < 5 := hi
  rw [Nat.zero_add]
  match i, h5 with
  | 0, _ => exact c0
  | 1, _ => exact c1
  | 2, _ => exact c2
  | 3, _ => exact c3
  | 4, _ => exact c4
def kindC (k : Int) : Int := if inB k 0 6 then 0 else 3
def kindT (k : Int) : ByteArray := if inB k 0 6 then kindW k else ByteArray.empty
def showC (k : Int) : Int := if inB k 0 4 then 0 else 3
def showT (k : Int) : ByteArray := if inB k 0 4 then showW k else ByteArray.empty
def numT (n : Int) : ByteArray := if n < 0 then ⟨#[45]⟩ ++ digT n.natAbs else digT n.natAbs
theorem l7Number_any (n : Int) (h1 : -9223372036854775807 ≤ n) (h2 : n ≤ 9223372036854775807) (w : World) :
    Calls Tryz.prog 115 #[.int .i64 n] w (TextB (numT n) w) := by
  have K := Lib.hid (l1Digits_any n.natAbs (by omega))
  unfold numT
  unfold TextB at K ⊢
  have hsz := digT_size19 (n := n.natAbs) (by omega)
  generalize digT n.natAbs = t at K hsz ⊢
  by_cases h : n < 0
  · rw [if_pos h]
    have e : (n.natAbs : Int) = -n := by omega
    rw [e] at K
    clear e
    go_enter Tryz.func115, Tryz.ntmps115
    go_wp2_with fail
    refine (K.out _).mono ?_
    rintro e w1 ⟨rfl, hb1⟩
    go_wp2
    exact bodyPost_ret (v := .string _) (by simp [results, Tryz.results115, go_sem]) rfl ⟨rfl, hb1⟩
  · rw [if_neg h]
    have e : (n.natAbs : Int) = n := by omega
    rw [e] at K
    clear e
    go_enter Tryz.func115, Tryz.ntmps115
    go_wp2_with fail
    refine (K.out _).mono ?_
    rintro e w1 ⟨rfl, hb1⟩
    go_wp2
    go_ret
    exact ⟨rfl, hb1⟩
end Go.Proofs.YtcaknhoaoodbfaaGreatDoor
namespace Go.Proofs.YtcaknhoaoodbfaaGreatDoor
set_option linter.unusedVariables false
def hexV (c : UInt8) : Int := if 48 ≤ c.toNat ∧ c.toNat ≤ 57 then (c.toNat : Int) - 48 else if 97 ≤ c.toNat ∧ c.toNat ≤ 102 then (c.toNat : Int) - 97 + 10 else if 65 ≤ c.toNat ∧ c.toNat ≤ 70 then (c.toNat : Int) - 65 + 10 else -1
def digB (base : Int) (c : UInt8) : Bool := decide (0 ≤ hexV c) && decide (hexV c < base)
def numF (base : Int) : Int → List UInt8 → Int
  | n, [] => n
  | n, c :: t => if digB base c then numF base (n * base + hexV c) t else -1
def numberL (base : Int) (most : Nat) (l : List UInt8) : Int := if l.length < 1 ∨ most < l.length then -1 else numF base 0 l
theorem hexV_le (c : UInt8) : -1 ≤ hexV c ∧ hexV c ≤ 15 := by
  unfold hexV
  repeat' split
  all_goals omega
theorem numF_lt (base : Int) : ∀ (l : List UInt8) (n : Int), l.all (digB base) = false → numF base n l = -1
  | [], _, h => by simp at h
  | c :: t, n, h => by
    unfold numF
    cases hd : digB base c
    · rfl
    · rw [List.all_cons, hd, Bool.true_and] at h
      simp only [if_true]
      exact numF_lt base t _ h
theorem numF_bd (base : Int) (hb : 0 ≤ base) : ∀ (l : List UInt8) (n : Int), l.all (digB base) = true → 0 ≤ n → 0 ≤ numF base n l ∧ numF base n l < (n + 1) * base ^ l.length
  | [], n, _, h0 => by simp [numF]; omega
  | c :: t, n, h, h0 => by
    rw [List.all_cons, Bool.and_eq_true] at h
    have hd := h.1
    unfold digB at hd
    simp only [Bool.and_eq_true, decide_eq_true_eq] at hd
    unfold numF
    rw [if_pos h.1]
    have hm : 0 ≤ n * base := Int.mul_nonneg h0 hb
    have ih := numF_bd base hb t (n * base + hexV c) h.2 (by omega)
    refine ⟨ih.1, Int.lt_of_lt_of_le ih.2 ?_⟩
    rw [List.length_cons, Int.pow_succ, ← Int.mul_assoc, Int.mul_right_comm]
    refine Int.mul_le_mul_of_nonneg_right ?_ (Int.pow_nonneg hb)
    rw [Int.add_mul]
    omega
theorem pow_small (base : Int) (k m : Nat) (hb : 1 ≤ base) (h : k ≤ m) : base ^ k ≤ base ^ m := by
  obtain ⟨d, rfl⟩ := Nat.exists_eq_add_of_le h
  rw [Int.pow_add]
  have h1 : 0 ≤ base ^ k := Int.pow_nonneg (by omega)
  have h2 : 1 ≤ base ^ d := by
    clear h h1
    induction d with
    | zero => simp
    | succ d ih =>
      rw [Int.pow_succ]
      have := Int.mul_le_mul ih hb (by omega) (by omega)
      omega
  have := Int.mul_le_mul_of_nonneg_left h2 h1
  omega
def bst (l : List UInt8) : ByteArray := ⟨l.toArray⟩
theorem bst_size (l : List UInt8) : (bst l).size = l.length := rfl
end Go.Proofs.YtcaknhoaoodbfaaGreatDoor
namespace Go.Proofs.YtcaknhoaoodbfaaGreatDoor
open Go.ChangeShapes Go.WideShapes Go.ChangeAt Go.RowKit
set_option linter.unusedVariables false
theorem l3Hex_any (c : UInt8) (w : World) :
    Calls Tryz.prog 228 #[.int .u8 (c.toNat : Int)] w fun e w' => e = .returned (.int .i64 (hexV c)) ∧ w' = w := by
  have h256 := c.toNat_lt
  have e : hexV c = if 48 ≤ (c.toNat : Int) ∧ (c.toNat : Int) ≤ 57 then (c.toNat : Int) - 48 else if 97 ≤ (c.toNat : Int) ∧ (c.toNat : Int) ≤ 102 then (c.toNat : Int) - 97 + 10 else if 65 ≤ (c.toNat : Int) ∧ (c.toNat : Int) ≤ 70 then (c.toNat : Int) - 65 + 10 else -1 := by
    unfold hexV
    repeat' split
    all_goals first | rfl | omega
  rw [e]
  have x0 : 0 ≤ (c.toNat : Int) := by omega
  have x1 : (c.toNat : Int) ≤ 255 := by omega
  generalize (c.toNat : Int) = x at x0 x1
  clear e h256
  by_cases h1 : 48 ≤ x ∧ x ≤ 57
  · rw [if_pos h1]
    obtain ⟨a, b⟩ := h1
    go_enter Tryz.func228, Tryz.ntmps228
    go_wp2
    go_ret
    exact ⟨rfl, rfl⟩
  · rw [if_neg h1]
    by_cases h2 : 97 ≤ x ∧ x ≤ 102
    · rw [if_pos h2]
      obtain ⟨a, b⟩ := h2
      clear h1
      go_enter Tryz.func228, Tryz.ntmps228
      go_wp2
      go_ret
      exact ⟨rfl, rfl⟩
    · rw [if_neg h2]
      by_cases h3 : 65 ≤ x ∧ x ≤ 70
      · rw [if_pos h3]
        obtain ⟨a, b⟩ := h3
        clear h1 h2
        go_enter Tryz.func228, Tryz.ntmps228
        go_wp2
        go_ret
        exact ⟨rfl, rfl⟩
      · rw [if_neg h3]
        have hq : (x < 48 ∨ 57 < x) ∧ (x < 97 ∨ 102 < x) ∧ (x < 65 ∨ 70 < x) := by omega
        have HQ := Lib.hid hq
        clear h1 h2 h3 hq
        go_enter Tryz.func228, Tryz.ntmps228
        go_wp2
        all_goals first | (exfalso; have := HQ.out; omega) | (go_ret; exact ⟨rfl, rfl⟩)
theorem numF_all {base : Int} {l : List UInt8} {k : Nat} (h : (l.take k).all (digB base) = true) (hk : k = l.length) (h1 : 1 ≤ l.length) {most : Nat} (h2 : l.length ≤ most) : numberL base most l = numF base 0 (l.take k) := by
  subst hk
  rw [List.take_length]
  unfold numberL
  rw [if_neg (by omega)]
theorem take_snoc' (s : ByteArray) (k : Nat) (h : k < s.size) : s.data.toList.take (k + 1) = s.data.toList.take k ++ [s[k]] := by
  rw [List.take_succ_eq_append_getElem (by simpa using h)]
  rfl
theorem numF_snoc' (base : Int) : ∀ (l : List UInt8) (n : Int) (c : UInt8), (l ++ [c]).all (digB base) = true → numF base n (l ++ [c]) = numF base n l * base + hexV c
  | [], n, c, h => by
    simp at h
    simp [numF, h]
  | d :: t, n, c, h => by
    rw [List.cons_append, List.all_cons, Bool.and_eq_true] at h
    have ih := numF_snoc' base t (n * base + hexV d) c h.2
    simp only [List.cons_append, numF, h.1, if_true]
    exact ih
theorem seven' {base : Int} {k : Nat} (hb : base = 10 ∨ base = 16) (hk : k ≤ 6) : (1 : Int) * base ^ k ≤ 16777216 := by
  have h1 := pow_small base k 6 (by omega) hk
  rcases hb with rfl | rfl
  · have : (10 : Int) ^ 6 = 1000000 := by decide
    omega
  · have : (16 : Int) ^ 6 = 16777216 := by decide
    omega
theorem all_take_false' {l : List UInt8} {k : Nat} {c : UInt8} {p : UInt8 → Bool} (h : l.take (k + 1) = l.take k ++ [c]) (hc : p c = false) : l.all p = false := by
  rw [← List.take_append_drop (k + 1) l, h, List.all_append, List.all_append]
  simp [hc]
set_option maxHeartbeats 1600000 in
theorem l3Number10 (most : Nat) (hm : most ≤ 7) (s : ByteArray) (hs : s.size ≤ maxLen) (w : World) :
    Calls Tryz.prog 206 #[.string s, .int .i64 10, .int .i64 most] w fun e w' => e = .returned (.int .i64 (numberL 10 most s.data.toList)) ∧ w' = w := by
  unfold maxLen at hs
  have hl : s.data.toList.length = s.size := by simp
  have hm' : (most : Int) ≤ 7 := by omega
  by_cases h0 : s.size < 1
  · have e : numberL 10 most s.data.toList = -1 := by unfold numberL; rw [if_pos (by omega)]
    rw [e]
    have h0' : (s.size : Int) < 1 := by omega
    clear e hl h0
    go_enter Tryz.func206, Tryz.ntmps206
    go_wp2
    go_ret
    exact ⟨rfl, rfl⟩
  · have h1 : 1 ≤ (s.size : Int) := by omega
    by_cases h2 : most < s.size
    · have e : numberL 10 most s.data.toList = -1 := by unfold numberL; rw [if_pos (by omega)]
      rw [e]
      have h2' : (most : Int) < (s.size : Int) := by omega
      clear e hl h0 h2
      go_enter Tryz.func206, Tryz.ntmps206
      go_wp2
      go_ret
      exact ⟨rfl, rfl⟩
    · have h2' : (s.size : Int) ≤ (most : Int) := by omega
      generalize hr : numberL 10 most s.data.toList = r
      have HR := Lib.hid hr
      have HL := Lib.hid hl
      have h7 : s.size ≤ 7 := by omega
      clear hr hl h0
      go_enter Tryz.func206, Tryz.ntmps206
      go_wp2
      go_loop [7, 8] (fun n i => ∃ (k : Nat) (a : Int), k ≤ s.size ∧ i = .int .i64 k ∧ n = .int .i64 a ∧ Hid ((s.data.toList.take k).all (digB 10) = true ∧ a = numF 10 0 (s.data.toList.take k))) (fun _ i => s.size - (intOf i).toNat)
      case atStart => exact ⟨0, 0, Nat.zero_le _, rfl, rfl, by simp, rfl⟩
      case round =>
        obtain ⟨k, a, hk, rfl, rfl, hh⟩ := hrel
        by_cases hkn : k < s.size
        · have hbd := numF_bd 10 (by omega) _ 0 hh.out.1 (by omega)
          rw [← hh.out.2, List.length_take, HL.out, Nat.min_eq_left hk] at hbd
          have hsv := seven' (base := 10) (k := k) (by omega) (by omega)
          obtain ⟨a0, a1⟩ := hbd
          have a2 : a < 16777216 := by omega
          have HS := Lib.hid (take_snoc' s k hkn)
          have KH := Lib.hid (l3Hex_any s[k])
          have hv := hexV_le s[k]
          cases hdg : digB 10 s[k]
          · have hr : r = -1 := by
              rw [← HR.out]
              unfold numberL
              rw [if_neg (by rw [HL.out]; omega)]
              exact numF_lt _ _ 0 (all_take_false' HS.out hdg)
            subst hr
            unfold digB at hdg
            clear hsv a1 hh HS
            have hq : hexV s[k] < 0 ∨ 10 ≤ hexV s[k] := by
              simp at hdg
              omega
            generalize hexV s[k] = v at KH hv hq
            clear hdg
            rcases hq with hq | hq
            · go_wp2_with (go_at_call 228; refine (KH.out _).mono ?_; rintro e w' ⟨rfl, rfl⟩)
              all_goals go_ret
              all_goals exact ⟨rfl, rfl⟩
            · have hq' : 0 ≤ v := by omega
              go_wp2_with (go_at_call 228; refine (KH.out _).mono ?_; rintro e w' ⟨rfl, rfl⟩)
              all_goals go_ret
              all_goals exact ⟨rfl, rfl⟩
          · have hall : (s.data.toList.take (k + 1)).all (digB 10) = true := by rw [HS.out, List.all_append, hh.out.1]; simp [hdg]
            have hnum : numF 10 0 (s.data.toList.take (k + 1)) = a * 10 + hexV s[k] := by
              rw [HS.out] at hall ⊢
              rw [numF_snoc' _ _ _ _ hall, ← hh.out.2]
            have HN := Lib.hid (And.intro hall hnum.symm)
            unfold digB at hdg
            simp only [Bool.and_eq_true, decide_eq_true_eq] at hdg
            obtain ⟨v0, v1⟩ := hdg
            clear hsv a1 hh HS hall hnum
            generalize hexV s[k] = v at KH hv HN v0 v1
            go_wp2_with (go_at_call 228; refine (KH.out _).mono ?_; rintro e w' ⟨rfl, rfl⟩)
            all_goals
              go_round
              case rel => exact ⟨k + 1, a * 10 + v, by omega, by go_num, rfl, HN⟩
              case measure => simp [intOf]; omega
        · obtain rfl : k = s.size := by omega
          have hr : r = a := by rw [← HR.out, numF_all hh.out.1 HL.out.symm (by rw [HL.out]; omega) (by rw [HL.out]; omega), ← hh.out.2]
          subst hr
          clear hh
          go_wp2
          go_ret
          exact ⟨rfl, rfl⟩
set_option maxHeartbeats 1600000 in
theorem l3Number16 (most : Nat) (hm : most ≤ 7) (s : ByteArray) (hs : s.size ≤ maxLen) (w : World) :
    Calls Tryz.prog 206 #[.string s, .int .i64 16, .int .i64 most] w fun e w' => e = .returned (.int .i64 (numberL 16 most s.data.toList)) ∧ w' = w := by
  unfold maxLen at hs
  have hl : s.data.toList.length = s.size := by simp
  have hm' : (most : Int) ≤ 7 := by omega
  by_cases h0 : s.size < 1
  · have e : numberL 16 most s.data.toList = -1 := by unfold numberL; rw [if_pos (by omega)]
    rw [e]
    have h0' : (s.size : Int) < 1 := by omega
    clear e hl h0
    go_enter Tryz.func206, Tryz.ntmps206
    go_wp2
    go_ret
    exact ⟨rfl, rfl⟩
  · have h1 : 1 ≤ (s.size : Int) := by omega
    by_cases h2 : most < s.size
    · have e : numberL 16 most s.data.toList = -1 := by unfold numberL; rw [if_pos (by omega)]
      rw [e]
      have h2' : (most : Int) < (s.size : Int) := by omega
      clear e hl h0 h2
      go_enter Tryz.func206, Tryz.ntmps206
      go_wp2
      go_ret
      exact ⟨rfl, rfl⟩
    · have h2' : (s.size : Int) ≤ (most : Int) := by omega
      generalize hr : numberL 16 most s.data.toList = r
      have HR := Lib.hid hr
      have HL := Lib.hid hl
      have h7 : s.size ≤ 7 := by omega
      clear hr hl h0
      go_enter Tryz.func206, Tryz.ntmps206
      go_wp2
      go_loop [7, 8] (fun n i => ∃ (k : Nat) (a : Int), k ≤ s.size ∧ i = .int .i64 k ∧ n = .int .i64 a ∧ Hid ((s.data.toList.take k).all (digB 16) = true ∧ a = numF 16 0 (s.data.toList.take k))) (fun _ i => s.size - (intOf i).toNat)
      case atStart => exact ⟨0, 0, Nat.zero_le _, rfl, rfl, by simp, rfl⟩
      case round =>
        obtain ⟨k, a, hk, rfl, rfl, hh⟩ := hrel
        by_cases hkn : k < s.size
        · have hbd := numF_bd 16 (by omega) _ 0 hh.out.1 (by omega)
          rw [← hh.out.2, List.length_take, HL.out, Nat.min_eq_left hk] at hbd
          have hsv := seven' (base := 16) (k := k) (by omega) (by omega)
          obtain ⟨a0, a1⟩ := hbd
          have a2 : a < 16777216 := by omega
          have HS := Lib.hid (take_snoc' s k hkn)
          have KH := Lib.hid (l3Hex_any s[k])
          have hv := hexV_le s[k]
          cases hdg : digB 16 s[k]
          · have hr : r = -1 := by
              rw [← HR.out]
              unfold numberL
              rw [if_neg (by rw [HL.out]; omega)]
              exact numF_lt _ _ 0 (all_take_false' HS.out hdg)
            subst hr
            unfold digB at hdg
            clear hsv a1 hh HS
            have hq : hexV s[k] < 0 ∨ 16 ≤ hexV s[k] := by
              simp at hdg
              omega
            generalize hexV s[k] = v at KH hv hq
            clear hdg
            rcases hq with hq | hq
            · go_wp2_with (go_at_call 228; refine (KH.out _).mono ?_; rintro e w' ⟨rfl, rfl⟩)
              all_goals go_ret
              all_goals exact ⟨rfl, rfl⟩
            · have hq' : 0 ≤ v := by omega
              go_wp2_with (go_at_call 228; refine (KH.out _).mono ?_; rintro e w' ⟨rfl, rfl⟩)
              all_goals go_ret
              all_goals exact ⟨rfl, rfl⟩
          · have hall : (s.data.toList.take (k + 1)).all (digB 16) = true := by rw [HS.out, List.all_append, hh.out.1]; simp [hdg]
            have hnum : numF 16 0 (s.data.toList.take (k + 1)) = a * 16 + hexV s[k] := by
              rw [HS.out] at hall ⊢
              rw [numF_snoc' _ _ _ _ hall, ← hh.out.2]
            have HN := Lib.hid (And.intro hall hnum.symm)
            unfold digB at hdg
            simp only [Bool.and_eq_true, decide_eq_true_eq] at hdg
            obtain ⟨v0, v1⟩ := hdg
            clear hsv a1 hh HS hall hnum
            generalize hexV s[k] = v at KH hv HN v0 v1
            go_wp2_with (go_at_call 228; refine (KH.out _).mono ?_; rintro e w' ⟨rfl, rfl⟩)
            all_goals
              go_round
              case rel => exact ⟨k + 1, a * 16 + v, by omega, by go_num, rfl, HN⟩
              case measure => simp [intOf]; omega
        · obtain rfl : k = s.size := by omega
          have hr : r = a := by rw [← HR.out, numF_all hh.out.1 HL.out.symm (by rw [HL.out]; omega) (by rw [HL.out]; omega), ← hh.out.2]
          subst hr
          clear hh
          go_wp2
          go_ret
          exact ⟨rfl, rfl⟩
end Go.Proofs.YtcaknhoaoodbfaaGreatDoor
