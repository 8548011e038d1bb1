/- drawn presences: what a law is handed. -/
import Derived.Test.YtjkmgpomcnplnaaGreatDoorGS11
import Derived.Test.YtjkmgpomcnplnaaGreatDoorGS10
import Derived.Test.YtjkmgpomcnplnaaGreatDoorGS5
import Derived.Test.YtjkmgpomcnplnaaGreatDoorGS1
import Derived.Test.YtjkmgpomcnplnaaGreatDoorGS8
import Derived.Test.YtjkmgpomcnplnaaGreatDoorGS7
import Derived.Test.YtjkmgpomcnplnaaGreatDoorGS6
import Derived.Test.YtjkmgpomcnplnaaGreatDoorGS0
import Derived.RangeFuncNested
import Derived.RangeFuncBound
import Derived.RangeFuncCalls
import Derived.RangeFuncLeaves
import Derived.RangeFuncBox
import Derived.Maps.AppendAt
import Derived.Shelf.Abstract
import Derived.Shelf.RegionOpen
import Derived.WalkKit
import Derived.OwnWalkIn
import Derived.TacticsInMore
import Derived.LoopNIn
import Derived.LoopIn
import Derived.Test.YtjkmgpomcnplnaaGreatDoorGS2
import Derived.WalkLawsBesides
namespace Go.Proofs.YtjkmgpomcnplnaaGreatDoor
open Go.ChangeShapes Go.WideShapes Go.ChangeAt Go.RowKit
set_option linter.unusedVariables false
def TopPr (w : World) (en : Ending) (w' : World) : Prop :=
  ∃ (y : Pr) (x : Addr) (m q : Nat), en = .returned (.agg #[.int .i64 y.kind, .string y.sender, .string y.goal, .int .i64 y.shown, .string y.status, .int .i64 y.prio, .slice (some x) m q]) ∧ OwnIts w' w.heap.size w'.heap.size (some x) m q y.more ∧ PrD y ∧ Below w.heap.size w w'
theorem PrD.own {W : World} {B : Nat} {a : Option Addr} {n c : Nat} {y : Pr} {A : Nat → Option Addr} {N C : Nat → Nat} (hy : PrD y) (h : GrowIts W B (.slice a n c) n y.more A N C) : OwnIts W B W.heap.size a n c y.more := h.own (by have := h.len; have := hy.few; omega) (drawn_sizes hy.more n)
theorem PrD.small {y : Pr} (hy : PrD y) : SmallPr y := ⟨⟨by have := hy.sender; omega, by have := hy.goal; omega, by have := hy.status; omega⟩, drawn_small hy.more (by have := hy.few; omega)⟩
theorem only_fill7 (W : World) (x : Nat) (u0 u1 u2 u3 u4 u5 u6 : Value) : Only (fun i => i = x) W (((((((W.setCell ⟨x, 0, none⟩ u0).setCell ⟨x, 1, none⟩ u1).setCell ⟨x, 2, none⟩ u2).setCell ⟨x, 3, none⟩ u3).setCell ⟨x, 4, none⟩ u4).setCell ⟨x, 5, none⟩ u5).setCell ⟨x, 6, none⟩ u6) :=
  have st : ∀ (W' : World) (i : Nat) (v : Value), Only (fun i => i = x) W W' → Only (fun i => i = x) W (W'.setCell ⟨x, i, none⟩ v) := fun W' i v h => h.trans (Only.set W' ⟨x, i, none⟩ v rfl)
  st _ 6 _ (st _ 5 _ (st _ 4 _ (st _ 3 _ (st _ 2 _ (st _ 1 _ (st _ 0 _ (Only.refl W)))))))
theorem below_fill7 {w W : World} (h : Below w.heap.size w W) (x : Nat) (hx : w.heap.size ≤ x) (u0 u1 u2 u3 u4 u5 u6 : Value) : Below w.heap.size w (((((((W.setCell ⟨x, 0, none⟩ u0).setCell ⟨x, 1, none⟩ u1).setCell ⟨x, 2, none⟩ u2).setCell ⟨x, 3, none⟩ u3).setCell ⟨x, 4, none⟩ u4).setCell ⟨x, 5, none⟩ u5).setCell ⟨x, 6, none⟩ u6) := ((((((h.setCell hx _).setCell hx _).setCell hx _).setCell hx _).setCell hx _).setCell hx _).setCell hx _
def BentOwn (w : World) (b : Nat) (e : Ending) (w' : World) : Prop := ∃ (x : Option Addr) (m q : Nat) (l : List It), e = .returned (.slice x m q) ∧ OwnIts w' w.heap.size w'.heap.size x m q l ∧ BentIts l ∧ w.grownBy w' (some b)
set_option maxRecDepth 100000 in
set_option maxHeartbeats 12800000 in
theorem l4BentO_any (b : Nat) (a : Option Addr) (n c : Nat) (xs : List Int) (k : Nat) (hk : k + 4000 < 1000000) (w : World) (h : Src w b a n c xs k) :
    Calls Tryz.prog 37 #[.pointer (some ⟨b, 0, none⟩)] w (BentOwn w b) := by
  obtain ⟨i0, hi, hz0, hi1, hz2⟩ := info_parts itemInfo
  obtain ⟨j0, hj, hjz0, hj1, hjz2⟩ := info_parts attrInfo
  unfold BentOwn
  have hblt := h.lt
  have KT := Lib.hid (l4Draw_any b a n c xs k 10 (by decide) (by decide) (by omega) w h)
  unfold TreeDrawn at KT
  simp only [show ((10 : Nat) : Int) = 10 from rfl] at KT
  have KN := Lib.hid (fun (k : Nat) (m : Int) (hm0 : 1 ≤ m) (hm : m ≤ 1000000000) (hk : k < 1000000) (W : World) (h : Src W b a n c xs k) => l1Next_any b a n c xs k m hm0 hm hk W h)
  unfold NextRes at KN
  clear h
  go_enter Tryz.func37, Tryz.ntmps37
  go_wp2_with fail
  refine KT.out.mono ?_
  rintro e w1 ⟨x, m, q, l, A, N, C, k1, rfl, hg1, hm1, hm10, hD, hk1, hs1, hgr1⟩
  obtain ⟨bo, cap, cur, hv, hbo1, _⟩ := hg1.row.2.resolve_left (by omega)
  simp only [Value.slice.injEq] at hv
  obtain ⟨rfl, _, rfl⟩ := hv
  have HB := Lib.hid (drawn_bent hD hg1.g.len (by omega))
  have HD := Lib.hid hD
  have G1 := Lib.hid hg1
  have S1 := Lib.hid hs1
  have E1 := Lib.hid hgr1
  clear hg1 hs1 hgr1 hD
  go_wp2_with fail
  refine (KN.out k1 m (by omega) (by omega) (by omega) _ S1.out).mono ?_
  rintro e w2 ⟨r, rfl, hr, hs2, hg2⟩
  have hr := hr (by omega)
  have hrn : r < m := by omega
  have G2 := Lib.hid (G1.out.far hg2 hblt)
  have S2 := Lib.hid hs2
  have E2 := Lib.hid (grown_trans_row E1.out hg2)
  clear hs2 hg2
  go_wp2_with fail
  refine (KN.out (k1 + 1) 18 (by decide) (by decide) (by omega) _ S2.out).mono ?_
  rintro e w3 ⟨z, rfl, hz, hs3, hg3⟩
  have hz := hz (by decide)
  have G3 := Lib.hid (G2.out.far hg3 hblt)
  have S3 := Lib.hid hs3
  have E3 := Lib.hid (grown_trans_row E2.out hg3)
  clear hs3 hg3
  have hzn : (0 : Int) ≤ (z : Int) := by omega
  generalize (z : Int) = t at hz hzn ⊢
  have hsz3 : w.heap.size ≤ w3.heap.size := E3.out.size
  have hbolt : bo < w3.heap.size := (G3.out.row.lt bo rfl).2
  have fz : ∀ j, w3.frozen? ⟨bo, j, none⟩ = false := fun j => G3.out.row.frozenAt j
  have FZ := Lib.hid fz
  clear fz
  by_cases t0 : t = 0
  · subst t0
    go_wp2_with fail
    refine (l1Pick_any b a n c xs (k1 + 1 + 1) w3.heap.size 5 _ rfl (by decide) (by decide) (by omega) _ (S3.out.alloc _) (lit_row w3 _ .i64 [-1, 0, 1, 6, 7] 5 rfl (by decide)) (by omega)).mono ?_
    rintro e w4 ⟨d, rfl, hdm, hs4, hg4⟩
    have hd : -1 ≤ d ∧ d ≤ 7 := by
      simp only [List.mem_cons, List.not_mem_nil, or_false] at hdm
      omega
    have G4 := Lib.hid ((G3.out.below (below1 w3 _)).far hg4 hblt)
    have E4 := Lib.hid (grown_trans_row (step_below E3.out (below1 w3 _)) hg4)
    have p0 : w4.cell? ⟨bo, r * 5, none⟩ = _ := G4.out.cellAt r 0 hrn (by decide)
    have f0 : w4.frozen? ⟨bo, r * 5, none⟩ = false := G4.out.row.frozenAt (r * 5 + 0)
    clear hs4 hg4 hdm
    go_wp2
    go_ret
    have hb := HB.out.2 r
    have R := its_field_o (f := 0) (u := .int .i64 d) G4.out HB.out hrn (by decide) (y := ⟨d, (l.getD r dIt).text, (l.getD r dIt).space, (l.getD r dIt).name, (l.getD r dIt).attrs⟩) ⟨hd, hb.sizes, hb.few, hb.short⟩ (by rfl) (.inl rfl) (.inr rfl) (.inr rfl) (.inr rfl) rfl
    exact ⟨_, _, _, _, rfl, R.1, R.2, bent_end E4.out hbo1 (grown_set w4 _ _)⟩
  by_cases t1 : t = 1
  · subst t1
    have p0 := G3.out.cellAt r 1 hrn (by decide)
    have f0 := FZ.out (r * 5 + 1)
    go_wp2
    go_ret
    have hb := HB.out.2 r
    have R := its_field_o (f := 1) (u := .string ⟨#[116]⟩) G3.out HB.out hrn (by decide) (y := ⟨(l.getD r dIt).depth, ⟨#[116]⟩, (l.getD r dIt).space, (l.getD r dIt).name, (l.getD r dIt).attrs⟩) ⟨hb.depth, ⟨show (⟨#[116]⟩ : ByteArray).size ≤ 60 by decide, hb.sizes.2.1, hb.sizes.2.2⟩, hb.few, hb.short⟩ (by rfl) (.inr rfl) (.inl rfl) (.inr rfl) (.inr rfl) rfl
    exact ⟨_, _, _, _, rfl, R.1, R.2, bent_end E3.out hbo1 (grown_set w3 _ _)⟩
  by_cases t2 : t = 2
  · subst t2
    have p0 := G3.out.cellAt r 3 hrn (by decide)
    have f0 := FZ.out (r * 5 + 3)
    go_wp2
    go_ret
    have hb := HB.out.2 r
    have R := its_field_o (f := 3) (u := .string ⟨#[49]⟩) G3.out HB.out hrn (by decide) (y := ⟨(l.getD r dIt).depth, (l.getD r dIt).text, (l.getD r dIt).space, ⟨#[49]⟩, (l.getD r dIt).attrs⟩) ⟨hb.depth, ⟨hb.sizes.1, hb.sizes.2.1, show (⟨#[49]⟩ : ByteArray).size ≤ 60 by decide⟩, hb.few, hb.short⟩ (by rfl) (.inr rfl) (.inr rfl) (.inr rfl) (.inl rfl) rfl
    exact ⟨_, _, _, _, rfl, R.1, R.2, bent_end E3.out hbo1 (grown_set w3 _ _)⟩
  by_cases t3 : t = 3
  · subst t3
    have p0 := G3.out.cellAt r 2 hrn (by decide)
    have f0 := FZ.out (r * 5 + 2)
    go_wp2
    go_ret
    have hb := HB.out.2 r
    have R := its_field_o (f := 2) (u := .string ⟨#[1]⟩) G3.out HB.out hrn (by decide) (y := ⟨(l.getD r dIt).depth, (l.getD r dIt).text, ⟨#[1]⟩, (l.getD r dIt).name, (l.getD r dIt).attrs⟩) ⟨hb.depth, ⟨hb.sizes.1, show (⟨#[1]⟩ : ByteArray).size ≤ 60 by decide, hb.sizes.2.2⟩, hb.few, hb.short⟩ (by rfl) (.inr rfl) (.inr rfl) (.inl rfl) (.inr rfl) rfl
    exact ⟨_, _, _, _, rfl, R.1, R.2, bent_end E3.out hbo1 (grown_set w3 _ _)⟩
  by_cases t4 : t = 4
  · subst t4
    have p0 := G3.out.cellAt r 4 hrn (by decide)
    have hlr : r < l.length := by have := G3.out.g.len; omega
    have hfew : (l.getD r dIt).attrs.length ≤ 5 := (HD.out r).few
    have hNr : (l.getD r dIt).attrs.length = N r := (G3.out.g.ats r hlr).1.ats.len
    obtain ⟨es, hes⟩ : ∃ es, (l.getD r dIt).attrs = es := ⟨_, rfl⟩
    have RW := Lib.hid (G3.out.rows r hlr)
    have OF := Lib.hid (fun j e => G3.out.off r hlr j e)
    rw [cellI_at r 4 (by decide)] at p0
    simp only [show ¬ ((4 : Nat) = 0) by decide, show ¬ ((4 : Nat) = 1) by decide, show ¬ ((4 : Nat) = 2) by decide, show ¬ ((4 : Nat) = 3) by decide, if_false] at p0
    have hs0 := (HD.out r).short
    rw [hes] at RW hs0 hfew hNr
    have HSS := Lib.hid hs0
    clear hs0
    go_wp2_with (at_builtin; refine wpList_append_own_at _ rfl _ _ 49 rfl w.heap.size 52 j0 (.agg #[.string ByteArray.empty, .string ByteArray.empty]) 2 32 Tryz.underlying49 hj hjz0 hj1 hjz2 rfl (by decide) _ (N r) _ rfl (owns_below RW.out (below1 _ _)) ⟨w3.heap.size, 0, none⟩ 1 1 [.string ⟨#[97]⟩, .string ⟨#[]⟩] rfl rfl ?c1 ?c2 ?c3 ?c4 ?c5 ?_)
    case c1 => exact attCells w3 _ _
    case c2 => intro v hv; simp at hv; rcases hv with rfl | rfl <;> rfl
    case c3 => unfold maxLen; omega
    case c4 => omega
    case c5 => simp; omega
    intro v' w4 hown' hgr4 _ hat
    obtain ⟨a8, c8, rfl⟩ := owns_slice hown'
    have hown8 : w4.ownsRow w.heap.size 52 2 (.slice a8 (N r + 1) c8) (N r + 1) (flatA (es ++ [⟨⟨#[97]⟩, ⟨#[]⟩⟩])) := by rw [flatA_snoc]; exact hown'
    have R := its_attrs_o (es := es ++ [(⟨⟨#[97]⟩, ⟨#[]⟩⟩ : At)]) G3.out HB.out hrn (below1 w3 (.cells #[.string ⟨#[97]⟩, .string ⟨#[]⟩] 52)) hgr4 (fun j e => e) hown8 (fun j e => by
      rcases hat with e2 | e2
      · rw [e2] at e
        intro e3
        subst e3
        exact OF.out j e rfl
      · rw [e2] at e
        simp at e
        omega) (by omega) (sizes_snoc HSS.out (show (⟨#[97]⟩ : ByteArray).size ≤ 60 by decide) (show (⟨#[]⟩ : ByteArray).size ≤ 60 by decide)) (hat.imp id fun e => ⟨_, e, by simp⟩)
    have EE := Lib.hid (step_appended E3.out (Nat.le_refl _) RW.out hgr4)
    have hcell : w4.cell? ⟨bo, r * 5 + 4, none⟩ = some (.slice (A r) (N r) (C r)) := hgr4.cell (((below1 w3 _).cell (by exact hbolt)).trans p0) (fun e => OF.out bo e.symm rfl)
    have hfr : w4.frozen? ⟨bo, r * 5 + 4, none⟩ = false := ((Only.grown hgr4).frozen (p := ⟨bo, r * 5 + 4, none⟩) (by simp; omega) (fun e => OF.out bo e.symm rfl)).trans (((below1 w3 _).frozen (by exact hbolt)).trans (FZ.out _))
    have RR := Lib.hid R
    clear R hown8 hat hown' hgr4
    go_wp2
    go_ret
    exact ⟨_, _, _, _, rfl, RR.out.1, RR.out.2, bent_end EE.out hbo1 (grown_set w4 _ _)⟩
  by_cases t5 : t = 5
  · subst t5
    have p0 := ((below1 w3 (.cells #[.string ⟨#[120, 109, 108, 110, 115]⟩, .string ⟨#[]⟩] 52)).cell (p := ⟨bo, r * 5 + 4, none⟩) (by exact hbolt)).trans (G3.out.cellAt r 4 hrn (by decide))
    have f0 := ((below1 w3 (.cells #[.string ⟨#[120, 109, 108, 110, 115]⟩, .string ⟨#[]⟩] 52)).frozen (p := ⟨bo, r * 5 + 4, none⟩) (by exact hbolt)).trans (FZ.out (r * 5 + 4))
    go_wp2
    go_ret
    have hown := World.ownsRow_lit (base := w.heap.size) (e := 52) (size := 2) w3 #[.string ⟨#[120, 109, 108, 110, 115]⟩, .string ⟨#[]⟩] 1 (by omega) (by unfold maxLen; omega) rfl
    have R := its_attrs_o (es := [⟨⟨#[120, 109, 108, 110, 115]⟩, ⟨#[]⟩⟩]) (row := none) G3.out HB.out hrn (below1 w3 (.cells #[.string ⟨#[120, 109, 108, 110, 115]⟩, .string ⟨#[]⟩] 52)) (World.grownBy.refl _ _) (fun j e => by cases e) hown (fun j e => by simp only [Value.ownBlock, Option.some.injEq] at e; omega) (by decide) (sizes_snoc (es := []) (fun i => by simp [dAt]) (by decide) (by decide)) (.inr ⟨_, rfl, Nat.le_refl _⟩)
    have ew := World.setCell_alloc_past (w := w3) (.cells #[.string ⟨#[120, 109, 108, 110, 115]⟩, .string ⟨#[]⟩] 52) bo (r * 5 + 4) (.slice (some ⟨w3.heap.size, 0, none⟩) 1 1) hbolt
    rw [← ew]
    exact ⟨_, _, _, _, rfl, R.1, R.2, bent_end (step_below E3.out (below1 w3 _)) hbo1 (grown_set _ _ _)⟩
  by_cases t6 : t = 6
  · subst t6
    have p0 := G3.out.cellAt r 3 hrn (by decide)
    have f0 := FZ.out (r * 5 + 3)
    go_wp2
    go_ret
    have hb := HB.out.2 r
    have R := its_field_o (f := 3) (u := .string ⟨#[]⟩) G3.out HB.out hrn (by decide) (y := ⟨(l.getD r dIt).depth, (l.getD r dIt).text, (l.getD r dIt).space, ⟨#[]⟩, (l.getD r dIt).attrs⟩) ⟨hb.depth, ⟨hb.sizes.1, hb.sizes.2.1, show (⟨#[]⟩ : ByteArray).size ≤ 60 by decide⟩, hb.few, hb.short⟩ (by rfl) (.inr rfl) (.inr rfl) (.inr rfl) (.inl rfl) rfl
    exact ⟨_, _, _, _, rfl, R.1, R.2, bent_end E3.out hbo1 (grown_set w3 _ _)⟩
  by_cases t7 : t = 7
  · subst t7
    go_wp2_with fail
    refine (l1Pick_any b a n c xs (k1 + 1 + 1) w3.heap.size 2 _ rfl (by decide) (by decide) (by omega) _ (S3.out.alloc _) (lit_row w3 _ .i64 [1, 40] 2 rfl (by decide)) (by omega)).mono ?_
    rintro e w4 ⟨d, rfl, hdm, hs4, hg4⟩
    obtain ⟨kk, rfl, hkk0, hkk⟩ : ∃ kk : Nat, d = (kk : Int) ∧ 0 < kk ∧ kk ≤ 40 := by
      simp only [List.mem_cons, List.not_mem_nil, or_false] at hdm
      rcases hdm with rfl | rfl
      · exact ⟨1, rfl, by decide, by decide⟩
      · exact ⟨40, rfl, by decide, by decide⟩
    have G4 := Lib.hid ((G3.out.below (below1 w3 _)).far hg4 hblt)
    have E4 := Lib.hid (grown_trans_row (step_below E3.out (below1 w3 _)) hg4)
    have hw4 : w3.heap.size ≤ w4.heap.size := by have := hg4.size; simp at this; omega
    clear hs4 hg4 hdm
    go_wp2_with (at_builtin; refine wpList_append_zeros _ rfl _ _ 24 2 rfl w.heap.size 54 i0 (.agg #[.int .i64 0, .string ByteArray.empty, .string ByteArray.empty, .string ByteArray.empty, .slice none 0 0]) 5 80 .i64 .i64 Tryz.underlying24 Tryz.underlying2 hi hz0 hi1 hz2 rfl (by decide) _ m _ rfl G4.out.row (.inl (by omega)) kk rfl hkk0 (zeros_one kk) ?c3 ?c4 ?c5 ?_)
    case c3 => unfold maxLen; omega
    case c4 => omega
    case c5 => omega
    intro v' w5 hown' hgr5 hat
    obtain ⟨a8, c8, rfl⟩ := owns_slice hown'
    have RR := Lib.hid (its_more_o G4.out HB.out (by omega) (zeros_at kk) hown' hgr5 (by omega) hat)
    have EE := Lib.hid (bent_end E4.out hbo1 hgr5)
    clear hown' hgr5 hat
    go_wp2
    go_ret
    exact ⟨_, _, _, _, rfl, RR.out.1, RR.out.2, EE.out⟩
  by_cases t8 : t = 8
  · subst t8
    go_wp2
    go_ret
    exact ⟨none, 0, 0, [], rfl, ⟨rfl, by omega, fun i hi => by omega, .inl rfl⟩, ⟨by simp, fun i => by simpa using dIt_drawn.bent⟩, E3.out⟩
  by_cases t9 : t = 9
  · subst t9
    go_wp2
    go_loopw [3] (fun v wr => ∃ (j cap' : Nat) (x' : Option Addr) (l' : List It) (A' : Nat → Option Addr) (N' C' : Nat → Nat) (k' : Nat), v = .slice x' j cap' ∧ 1 ≤ j ∧ j ≤ 41 ∧ k' ≤ k1 + 2 + j ∧ GrowR wr w.heap.size (.slice x' j cap') j l' A' N' C' ∧ (∀ i, DrawnIt (l'.getD i dIt)) ∧ Src wr b a n c xs k' ∧ w.grownBy wr (some b)) (fun v _ => 41 - lenOfV v)
    case atStart => exact ⟨m, q, _, l, A, N, C, k1 + 1 + 1, rfl, hm1, by omega, by omega, G3.out, HD.out, S3.out, E3.out⟩
    case round =>
      obtain ⟨j, cap', x', l', A', N', C', k', rfl, hj1, hj41, hk', hG, hDD, hS, hE⟩ := hrel
      have GG := Lib.hid hG
      have DD := Lib.hid hDD
      have SS := Lib.hid hS
      have EE := Lib.hid hE
      have hwr : w.heap.size ≤ wr.heap.size := hE.size
      clear hG hDD hS hE
      go_wp2_with fail
      refine (l1Pick_any b a n c xs k' wr.heap.size 2 _ rfl (by decide) (by decide) (by omega) _ (SS.out.alloc _) (lit_row wr _ .i64 [40, 41] 2 rfl (by decide)) (by omega)).mono ?_
      rintro e w4 ⟨d, rfl, hdm, hs4, hg4⟩
      have hd : 40 ≤ d ∧ d ≤ 41 := by
        simp only [List.mem_cons, List.not_mem_nil, or_false] at hdm
        omega
      have G4 := Lib.hid ((GG.out.below (below1 wr _)).far hg4 hblt)
      have S4 := Lib.hid hs4
      have E4 := Lib.hid (grown_trans_row (step_below EE.out (below1 wr _)) hg4)
      have hw4 : wr.heap.size ≤ w4.heap.size := by have := hg4.size; simp at this; omega
      clear hs4 hg4 hdm
      by_cases hjd : (j : Int) < d
      · go_wp2_with (at_builtin; refine wpList_append_own_at _ rfl _ _ 24 rfl w.heap.size 54 i0 (.agg #[.int .i64 0, .string ByteArray.empty, .string ByteArray.empty, .string ByteArray.empty, .slice none 0 0]) 5 80 Tryz.underlying24 hi hz0 hi1 hz2 rfl (by decide) _ j _ rfl (G4.out.row.alloc _) ⟨w4.heap.size, 0, none⟩ 1 1 [.int .i64 1, .string ⟨#[]⟩, .string ⟨#[]⟩, .string ⟨#[122]⟩, .slice none 0 0] rfl rfl ?c1 ?c2 ?c3 ?c4 ?c5 ?_)
        case c1 => exact fun j u hj => itCells w4 _ _ _ _ _ j u hj
        case c2 => intro v hv; simp at hv; rcases hv with rfl | rfl | rfl | rfl <;> rfl
        case c3 => unfold maxLen; omega
        case c4 => omega
        case c5 => simp; omega
        intro v' w8 hown' hgr _ hat
        obtain ⟨a8, c8, rfl⟩ := owns_slice hown'
        have hb8 := below1 w4 (.cells #[.int .i64 1, .string ⟨#[]⟩, .string ⟨#[]⟩, .string ⟨#[122]⟩, .slice none 0 0] 54)
        have G8 := Lib.hid (G4.out.snocO (P := fun i => some i = some b) (x := ⟨1, ⟨#[]⟩, ⟨#[]⟩, ⟨#[122]⟩, []⟩) (Only.below hb8) (fun i hi e => by simp only [Option.some.injEq] at e; omega)
          (noAts0 _ _ _) (noRow0 _ _) (fun _ => rfl) (by omega) hown' hgr (hat.imp id fun e => ⟨w4.heap.size + 1, by simpa using e, by simp⟩))
        have S8 := Lib.hid ((S4.out.below hb8).grown hgr (fun g e => by have := (G4.out.row.lt g e).1; omega))
        have E8 := Lib.hid (step_appended E4.out (Nat.le_refl _) G4.out.row hgr)
        have D8 := Lib.hid (drawn_snoc DD.out (x := ⟨1, ⟨#[]⟩, ⟨#[]⟩, ⟨#[122]⟩, []⟩) ⟨by decide, ⟨by decide, by decide, by decide⟩, by simp, fun i => by simp [dAt]⟩)
        clear hown' hgr hat hb8
        go_wp2
        go_roundw
        case rel => exact ⟨j + 1, c8, a8, _, _, _, _, k' + 1, rfl, by omega, by omega, by omega, G8.out, D8.out, S8.out, E8.out⟩
        case measure => simp [lenOfV]; omega
      · have HI := Lib.hid (GG.out.own (by omega) (drawn_sizes DD.out j))
        have HI4 := Lib.hid (G4.out.own (by omega) (drawn_sizes DD.out j))
        go_wp2
        go_ret
        exact ⟨_, _, _, l', rfl, HI4.out, drawn_bent DD.out GG.out.g.len (by omega), E4.out⟩
  go_wp2
  go_ret
  exact ⟨_, _, _, l, rfl, G3.out.own (by omega) (drawn_sizes HD.out m), HB.out, E3.out⟩
set_option linter.unusedSimpArgs false
structure Mid (x : It) : Prop where
  depth : -10 ≤ x.depth ∧ x.depth ≤ 10
  sizes : x.text.size ≤ 200 ∧ x.space.size ≤ 200 ∧ x.name.size ≤ 200
  few : x.attrs.length ≤ 10
  short : ∀ i, (x.attrs.getD i dAt).name.size ≤ 200 ∧ (x.attrs.getD i dAt).value.size ≤ 200
theorem DrawnIt.mid {x : It} (h : DrawnIt x) : Mid x := ⟨by have := h.depth; omega, by have := h.sizes; omega, by have := h.few; omega, fun i => by have := h.short i; omega⟩
theorem dIt_mid : Mid dIt := dIt_drawn.mid
def Mids (l : List It) : Prop := l.length ≤ 60 ∧ ∀ i, Mid (l.getD i dIt)
theorem mids_set {l : List It} (h : Mids l) {r : Nat} {y : It} (hy : Mid y) : Mids (l.set r y) := ⟨by rw [List.length_set]; exact h.1, fun i => by
  rw [List.getD_eq_getElem?_getD, List.getElem?_set]
  by_cases e : r = i
  · rw [if_pos e]
    split
    · exact hy
    · exact dIt_mid
  · rw [if_neg e, ← List.getD_eq_getElem?_getD]
    exact h.2 i⟩
theorem Mids.small {l : List It} (h : Mids l) : SmallIts l := ⟨by have := h.1; omega, fun i _ => by
  have := h.2 i
  exact ⟨by have := this.sizes; omega, by have := this.few; omega, fun j _ => by have := this.short j; unfold SmallAt; omega⟩⟩
theorem Mids.wide {l : List It} (h : Mids l) (n : Nat) : ∀ i, i < n → (-9223372036854775808 ≤ (l.getD i dIt).depth ∧ (l.getD i dIt).depth ≤ 9223372036854775807) ∧ ((l.getD i dIt).text.size ≤ 9223372036854775807 ∧ (l.getD i dIt).space.size ≤ 9223372036854775807 ∧ (l.getD i dIt).name.size ≤ 9223372036854775807) := fun i _ => by
  have := h.2 i
  exact ⟨⟨by have := this.depth; omega, by have := this.depth; omega⟩, by have := this.sizes; omega, by have := this.sizes; omega, by have := this.sizes; omega⟩
theorem Mids.own {W : World} {B : Nat} {a : Option Addr} {n c : Nat} {l : List It} {A : Nat → Option Addr} {N C : Nat → Nat} (h : Mids l) (hg : GrowIts W B (.slice a n c) n l A N C) : OwnIts W B W.heap.size a n c l := hg.own (by have := hg.len; have := h.1; omega) (h.wide n)
structure RootRow (w : World) (B : Nat) (v : Value) (l : List It) (A : Nat → Option Addr) (N C : Nat → Nat) : Prop where
  row : w.ownsRow B 52 2 (.slice (A 0) (N 0) (C 0)) (N 0) (flatA (l.getD 0 dIt).attrs)
  off : ∀ g, (Value.slice (A 0) (N 0) (C 0)).ownBlock = some g → v.ownBlock ≠ some g
  each : ∀ i, 0 < i → i < l.length → ∀ g x, (Value.slice (A 0) (N 0) (C 0)).ownBlock = some g → A i = some x → N i ≠ 0 → x.block ≠ g
theorem RootRow.below {w w' : World} {B : Nat} {v : Value} {l : List It} {A : Nat → Option Addr} {N C : Nat → Nat} (h : RootRow w B v l A N C) (hb : Below w.heap.size w w') : RootRow w' B v l A N C := ⟨owns_below h.row hb, h.off, h.each⟩
theorem owns_onlyR {P : Nat → Prop} {w w' : World} {base : Nat} {e : TypeId} {size : Nat} {v : Value} {n : Nat} {xs : List Value} (h : w.ownsRow base e size v n xs) (ho : Only P w w') (hn : ∀ g, v.ownBlock = some g → ¬ P g) : w'.ownsRow base e size v n xs := by
  refine ⟨h.1, h.2.imp id fun ⟨g, cap, cur, hv, hb, hg, hr⟩ => ⟨g, cap, cur, hv, hb, ?_, hr⟩⟩
  have hlt := (h.lt g (by rw [hv]; rfl)).2
  rw [ho.block g hlt (hn g (by rw [hv]; rfl))]
  exact hg
theorem RootRow.only {P : Nat → Prop} {w w' : World} {B : Nat} {v : Value} {l : List It} {A : Nat → Option Addr} {N C : Nat → Nat} (h : RootRow w B v l A N C) (ho : Only P w w') (hn : ∀ i, B ≤ i → i < w.heap.size → ¬ P i) : RootRow w' B v l A N C :=
  ⟨owns_onlyR h.row ho (fun g hg => hn g (h.row.lt g hg).1 (h.row.lt g hg).2), h.off, h.each⟩
theorem RootRow.keep {w w' : World} {B : Nat} {v : Value} {l : List It} {A : Nat → Option Addr} {N C : Nat → Nat} (h : RootRow w B v l A N C) (hg : w.grownBy w' v.ownBlock) : w'.ownsRow B 52 2 (.slice (A 0) (N 0) (C 0)) (N 0) (flatA (l.getD 0 dIt).attrs) := by
  refine h.row.kept hg ?_
  cases hv : (Value.slice (A 0) (N 0) (C 0)).ownBlock with
  | none => exact .inl rfl
  | some g => exact .inr (fun e => h.off g hv e.symm)
theorem getD_front {l l2 : List It} {i : Nat} (h : i < l.length) : (l ++ l2).getD i dIt = l.getD i dIt := by simp [List.getD_eq_getElem?_getD, List.getElem?_append_left h]
theorem RootRow.grow {w w' : World} {B n' : Nat} {v v' : Value} {l l2 : List It} {A A' : Nat → Option Addr} {N C N' C' : Nat → Nat} (h : RootRow w B v l A N C) (hl : 0 < l.length) (hg : w.grownBy w' v.ownBlock)
    (hG : GrowIts w' B v' n' (l ++ l2) A' N' C') (hv : v'.ownBlock = v.ownBlock ∨ ∃ g, v'.ownBlock = some g ∧ w.heap.size ≤ g) (ha : ∀ i, i < l.length → A' i = A i ∧ N' i = N i ∧ C' i = C i) (h2 : ∀ x ∈ l2, x.attrs = []) :
    RootRow w' B v' (l ++ l2) A' N' C' := by
  obtain ⟨e1, e2, e3⟩ := ha 0 hl
  have hlt : ∀ g, (Value.slice (A 0) (N 0) (C 0)).ownBlock = some g → g < w.heap.size := fun g hg => (h.row.lt g hg).2
  refine ⟨?_, ?_, ?_⟩
  · rw [e1, e2, e3, getD_front hl]
    exact h.keep hg
  · rw [e1, e2, e3]
    intro g hgb hq
    rcases hv with e | ⟨g2, e, h3⟩
    · rw [e] at hq
      exact h.off g hgb hq
    · rw [e] at hq
      have := hlt g hgb
      have e2 := Option.some.inj hq
      omega
  · rw [e1, e2, e3]
    intro i h0 hi g x hgb hx hn
    by_cases hil : i < l.length
    · obtain ⟨f1, f2, _⟩ := ha i hil
      rw [f1] at hx
      rw [f2] at hn
      exact h.each i h0 hil g x hgb hx hn
    · exfalso
      apply hn
      have h3 := (hG.ats i hi).1.ats.len
      have hi2 : i - l.length < l2.length := by rw [List.length_append] at hi; omega
      rw [List.getD_eq_getElem?_getD, List.getElem?_append_right (by omega), List.getElem?_eq_getElem hi2] at h3
      have h4 := h2 _ (List.getElem_mem hi2)
      rw [Option.getD_some, h4] at h3
      simpa using h3.symm
theorem RootRow.join {w w0 w1 : World} {B k : Nat} {v v' : Value} {l l2 : List It} {A A2 : Nat → Option Addr} {N C N2 C2 : Nat → Nat} (h : RootRow w B v l A N C) (hl : 0 < l.length) (hb : Below w.heap.size w w0) (hk : l2.length = k)
    (hA : ∀ i, i < k → OwnAts w0 w.heap.size w0.heap.size (A2 i) (N2 i) (C2 i) (l2.getD i dIt).attrs ∧ (A2 i = none → C2 i = 0)) (hg : w0.grownBy w1 v.ownBlock) (hv : v'.ownBlock = v.ownBlock ∨ ∃ g, v'.ownBlock = some g ∧ w0.heap.size ≤ g) :
    RootRow w1 B v' (l ++ l2) (joinA l.length A A2) (joinA l.length N N2) (joinA l.length C C2) := by
  have j1 : ∀ {α : Type} (F G : Nat → α) (i : Nat), i < l.length → joinA l.length F G i = F i := fun F G i hi => by unfold joinA; rw [if_pos hi]
  have j2 : ∀ {α : Type} (F G : Nat → α) (i : Nat), l.length ≤ i → joinA l.length F G i = G (i - l.length) := fun F G i hi => by unfold joinA; rw [if_neg (by omega)]
  have h0 := h.below hb
  have hlt : ∀ g, (Value.slice (A 0) (N 0) (C 0)).ownBlock = some g → g < w.heap.size := fun g hg => (h.row.lt g hg).2
  have hz := hb.size
  refine ⟨?_, ?_, ?_⟩
  · rw [j1 _ _ 0 hl, j1 _ _ 0 hl, j1 _ _ 0 hl, getD_front hl]
    exact h0.keep hg
  · rw [j1 _ _ 0 hl, j1 _ _ 0 hl, j1 _ _ 0 hl]
    intro g hgb hq
    rcases hv with e | ⟨g2, e, h3⟩
    · rw [e] at hq
      exact h.off g hgb hq
    · rw [e] at hq
      have := hlt g hgb
      have e2 := Option.some.inj hq
      omega
  · rw [j1 _ _ 0 hl, j1 _ _ 0 hl, j1 _ _ 0 hl]
    intro i hp hi g x hgb hx hn
    by_cases hil : i < l.length
    · rw [j1 _ _ i hil] at hx hn
      exact h.each i hp hil g x hgb hx hn
    · rw [j2 _ _ i (by omega)] at hx hn
      have hi2 : i - l.length < k := by rw [List.length_append] at hi; omega
      have := ((hA _ hi2).1.in hx hn).1
      have := hlt g hgb
      omega
def wordsCode (p : Pr) : Int := if textFault p.sender.data.toList ≠ 0 then textFault p.sender.data.toList else if textFault p.goal.data.toList ≠ 0 then textFault p.goal.data.toList else textFault p.status.data.toList
def fitsB (k0 s0 p0 k1 st : Bool) : Bool := !((k0 && (s0 || p0)) || (k1 && st))
def fits (p : Pr) : Bool := fitsB (p.kind != 0) (p.shown != 0) (p.prio != 0) (decide (1 < p.kind)) (!p.status.toList.isEmpty)
def presCode (p : Pr) : Int :=
  if (inB p.kind 0 6 && inB p.shown 0 4 && inB p.prio (-128) 127) = false then 3
  else if wordsCode p ≠ 0 then wordsCode p
  else if fits p = false then 1
  else moreCode p.more
set_option maxHeartbeats 1600000 in
theorem l7Texts_any (b : Nat) (p : Pr) (a : Option Addr) (n c : Nat) (w : World) (hs : p.sender.size ≤ 1048576 ∧ p.goal.size ≤ 1048576 ∧ p.status.size ≤ 1048576) (h : PrAt w b p a n c) :
    Calls Tryz.prog 59 #[.pointer (some ⟨b, 0, none⟩)] w fun e w' => e = .returned (.int .i64 (wordsCode p)) ∧ Below w.heap.size w w' := by
  obtain ⟨pk, pf, pt, ps, pu, pp, pm⟩ := p
  unfold wordsCode
  dsimp only at hs ⊢
  obtain ⟨hf, ht, hu⟩ := hs
  have K1 := Lib.hid (fun W => specTextFault_any pf (by omega) W)
  have K2 := Lib.hid (fun W => specTextFault_any pt (by omega) W)
  have K3 := Lib.hid (fun W => specTextFault_any pu (by omega) W)
  have H := Lib.hid h
  have d1 := h.c1
  clear h hf ht hu
  generalize textFault pf.data.toList = f1 at K1 ⊢
  generalize textFault pt.data.toList = f2 at K2 ⊢
  generalize textFault pu.data.toList = f3 at K3 ⊢
  by_cases h1 : f1 = 0
  · subst h1
    simp only [ne_eq, not_true_eq_false, if_false]
    by_cases h2 : f2 = 0
    · subst h2
      simp only [not_true_eq_false, if_false]
      go_enter Tryz.func59, Tryz.ntmps59
      go_wp2_with fail
      refine (K1.out _).mono ?_
      rintro e w1 ⟨rfl, hb1⟩
      have B1 := Lib.hid hb1
      have d2 := (H.out.below hb1).c2
      clear d1 hb1
      go_wp2_with fail
      refine (K2.out _).mono ?_
      rintro e w2 ⟨rfl, hb2⟩
      have B2 := Lib.hid (below_then B1.out hb2)
      have d4 := (H.out.below (below_then B1.out hb2)).c4
      clear d2 hb2
      go_wp2_with fail
      refine (K3.out _).mono ?_
      rintro e w3 ⟨rfl, hb3⟩
      have B3 := Lib.hid (below_then B2.out hb3)
      clear hb3 d4
      go_wp2
      go_ret
      exact ⟨rfl, B3.out⟩
    · have q1 : (f2 != 0) = true := by rw [bne_iff_ne]; exact h2
      have q2 : (f2 == 0) = false := by rw [beq_eq_false_iff_ne]; exact h2
      rw [if_pos h2]
      clear h2
      go_enter Tryz.func59, Tryz.ntmps59
      go_wp2_with fail
      refine (K1.out _).mono ?_
      rintro e w1 ⟨rfl, hb1⟩
      have B1 := Lib.hid hb1
      have d2 := (H.out.below hb1).c2
      clear d1 hb1
      go_wp2_with fail
      refine (K2.out _).mono ?_
      rintro e w2 ⟨rfl, hb2⟩
      have B2 := Lib.hid (below_then B1.out hb2)
      clear d2 hb2
      go_wp2
      go_ret
      exact ⟨rfl, B2.out⟩
  · have q1 : (f1 != 0) = true := by rw [bne_iff_ne]; exact h1
    have q2 : (f1 == 0) = false := by rw [beq_eq_false_iff_ne]; exact h1
    rw [if_pos h1]
    clear h1
    go_enter Tryz.func59, Tryz.ntmps59
    go_wp2_with fail
    refine (K1.out _).mono ?_
    rintro e w1 ⟨rfl, hb1⟩
    have B1 := Lib.hid hb1
    clear d1 hb1
    go_wp2
    go_ret
    exact ⟨rfl, B1.out⟩
theorem field_code (c : Int) (t : ByteArray) (W : World) : (Instr.field 42 (.agg #[.int .i64 c, .string t]) 0).run Tryz.prog W = .ok (.int .i64 c) W := by kernel_rfl
theorem field_text (c : Int) (t : ByteArray) (W : World) : (Instr.field 42 (.agg #[.int .i64 c, .string t]) 1).run Tryz.prog W = .ok (.string t) W := by kernel_rfl
end Go.Proofs.YtjkmgpomcnplnaaGreatDoor
namespace Go.Proofs.YtjkmgpomcnplnaaGreatDoor
open Go.RowKit Go.Shelf
set_option linter.unusedVariables false
attribute [local go_sem] Oper.semAt_some
structure GsLt (B : Nat) : Prop where
  a : 0 < B
  b : 1 < B
theorem GsLt.mono {B B' : Nat} (h : GsLt B) (hle : B ≤ B') : GsLt B' := ⟨Nat.lt_of_lt_of_le h.a hle, Nat.lt_of_lt_of_le h.b hle⟩
abbrev Tabs (w : World) : Prop := Lib.Utf8Tabs 0 1 w
theorem cell_some_lt {w : World} {a : Addr} {v : Value} (h : w.cell? a = some v) : a.block < w.heap.size := by
  unfold World.cell? at h
  rcases Nat.lt_or_ge a.block w.heap.size with h1 | h1
  · exact h1
  · rw [Array.getElem?_eq_none h1] at h
    simp at h
theorem gs_of_tabs {w : World} (h : Tabs w) : GsLt w.heap.size :=
  ⟨cell_some_lt (h.1 0 (by decide)), cell_some_lt (h.2 0 (by decide)).1⟩
theorem tabs_below {B : Nat} {w w' : World} (h : Tabs w) (hb : Below B w w') (hB : GsLt B) : Tabs w' :=
  ⟨fun c hc => (hb.cell (p := ⟨0, c, none⟩) hB.a).trans (h.1 c hc),
   fun i hi => ⟨(hb.cell (p := ⟨1, 2 * i, none⟩) hB.b).trans (h.2 i hi).1, (hb.cell (p := ⟨1, 2 * i + 1, none⟩) hB.b).trans (h.2 i hi).2⟩⟩
theorem tabs_kept {w w' : World} (h : Tabs w) (hb : Below w.heap.size w w') : Tabs w' := tabs_below h hb (gs_of_tabs h)
theorem decodeGo_L (u : ByteArray) (h : 0 < u.size) : Lib.decodeGo u = Lib.decodeL u.data.toList := by
  unfold Lib.decodeGo
  rw [if_neg (by omega)]
  have := Lib.decodeL_drop u 0
  rw [List.drop_zero] at this
  exact this.symm
theorem decodeL_bound (l : List UInt8) : (Lib.decodeL l).1 ≤ 1114111 := by
  rw [Lib.decodeL_N]
  have k0 := (l.getD 0 0).toNat_lt
  have k1 := (l.getD 1 0).toNat_lt
  have k2 := (l.getD 2 0).toNat_lt
  have k3 := (l.getD 3 0).toNat_lt
  rcases Lib.decodeN_shape l.length (l.getD 0 0).toNat (l.getD 1 0).toNat (l.getD 2 0).toNat (l.getD 3 0).toNat with ⟨c, e⟩ | ⟨c1, c2, c3, cv, e⟩ | ⟨c1, c2, c3, c4, cv, cs, e⟩ | ⟨c1, c2, c3, c4, c5, cv, cw, e⟩ | e
  all_goals (rw [e]; dsimp only; omega)
theorem decode_at' (s : ByteArray) (pos : Nat) (hp : pos < s.size) (w : World) (hT : Tabs w) :
    Calls Tryz.prog 118 #[.string (s.extract pos s.size)] w fun e w' =>
      e = .returned (.tuple #[.int .i32 ((Lib.decodeL (s.data.toList.drop pos)).1 : Int), .int .i64 ((Lib.decodeL (s.data.toList.drop pos)).2 : Int)]) ∧ Below w.heap.size w w' := by
  have h := Tryz.utf8_DecodeRuneInString (s.extract pos s.size) w hT
  rw [decodeGo_L _ (by rw [ByteArray.size_extract]; omega), Lib.extract_to_end] at h
  exact h
structure KpT (n₀ Bs : Nat) (W W' : World) : Prop where
  bel : Below n₀ W W'
  box : W'.heap[Bs]? = W.heap[Bs]?
theorem KpT.refl (n₀ Bs : Nat) (W : World) : KpT n₀ Bs W W := ⟨Below.refl _ _, rfl⟩
theorem KpT.trans {n₀ Bs : Nat} {A B C : World} (h : KpT n₀ Bs A B) (k : KpT n₀ Bs B C) : KpT n₀ Bs A C := ⟨h.bel.trans k.bel, k.box.trans h.box⟩
theorem KpT.of_below {n₀ Bs : Nat} {W W' : World} (h : Below W.heap.size W W') (hn : n₀ ≤ W.heap.size) (hB : Bs < W.heap.size) : KpT n₀ Bs W W' := ⟨h.mono hn, h.block Bs hB⟩
theorem KpT.cell {n₀ Bs : Nat} {W W' : World} (h : KpT n₀ Bs W W') (o : Nat) : W'.cell? ⟨Bs, o, none⟩ = W.cell? ⟨Bs, o, none⟩ := World.cell?_of_block (w := W) h.box
theorem kpT_b {n₀ Bs : Nat} {w : World} (hn : n₀ ≤ w.heap.size) (hB : Bs < w.heap.size) (W : World) (l : Nat) (o o' : Obj) (hl : w.heap.size ≤ l) (h : W.heap[l]? = some o) (h1 : o.isCells = false) (h2 : o.isWalk = false) : KpT n₀ Bs W (W.putObj l o') :=
  ⟨belowK_b hn W l o o' hl h h1 h2, World.putObj_heap_other (by omega)⟩
def encP (x : Int × Bool) : Array Value := #[.int .i64 x.1, .bool x.2]
set_option maxRecDepth 100000 in
set_option maxHeartbeats 4000000 in
theorem iter_in (n : Nat) (hn : 1 ≤ n) (l Bs n₀ : Nat) (s : ByteArray) (hs : s.size ≤ 1048576) (h2 : GsLt n₀) (B : Nat) (J Jx : List (Int × Bool) → World → Prop) (hJ : AbidesFrom B J)
    (hY : ∀ pre x W, J pre W → pre.length < (strm s.data.toList).length → YieldAt Fence.wide (n - 1) Tryz.prog l (encP x) W fun e W' =>
      (e = .returned (.bool true) ∧ J (pre ++ [x]) W' ∧ KpT n₀ Bs W W') ∨ (e = .returned (.bool false) ∧ Jx (pre ++ [x]) W'))
    (W : World) (hW : n₀ ≤ W.heap.size) (hBn : Bs < W.heap.size) (hBs : W.cell? ⟨Bs, 0, none⟩ = some (.string s)) (hT : Tabs W) (h0 : J [] W) :
    CallsIn Fence.wide n Tryz.prog 117 #[.func (.yield l) #[] #[], .pointer (some ⟨Bs, 0, none⟩)] W fun e W' => (∃ v, e = .returned v) ∧
      ((∃ ys, ys = strm s.data.toList ∧ J ys W') ∨ (∃ pre, pre <+: strm s.data.toList ∧ Jx pre W')) := by
  refine callsIn_of_wp Tryz.func117 rfl trivial ?_ rfl
  simp only [Tryz.ntmps117, List.size_toArray, List.length_cons, List.length_nil, Nat.reduceAdd, Nat.reduceSub, Array.replicate_succ, Array.replicate_zero, List.push_toArray, List.append_toArray, List.nil_append, List.cons_append]
  gi_wp2
  gi_loopw [3] (fun i wr => ∃ (pos : Nat) (pre : List (Int × Bool)), pos ≤ s.size ∧ i = .int .i64 pos ∧ strm s.data.toList = pre ++ strm (s.data.toList.drop pos) ∧ J pre wr ∧ KpT n₀ Bs W wr)
    (fun i _ => s.size - (intOf i).toNat)
  case atStart => exact ⟨0, [], Nat.zero_le _, rfl, rfl, h0, KpT.refl _ _ _⟩
  case round =>
    obtain ⟨pos, pre, hpos, rfl, hst, hJs, hnx⟩ := hrel
    have hBs' : wr.cell? ⟨Bs, 0, none⟩ = some (.string s) := (hnx.cell 0).trans hBs
    have HT := Lib.hid (tabs_below hT hnx.bel h2)
    have HW := Lib.hid (Nat.le_trans hW hnx.bel.size)
    have HST := Lib.hid hst
    have HNX := Lib.hid hnx
    have hBw : Bs < wr.heap.size := Nat.lt_of_lt_of_le hBn hnx.bel.size
    clear hst hnx
    by_cases hlt : pos < s.size
    · have hne : s.data.toList.drop pos ≠ [] := by
        intro h
        have := congrArg List.length h
        rw [List.length_drop, show s.data.toList.length = s.size by simp] at this
        simp at this
        omega
      have K := Lib.hid (fun WW (hTT : Tabs WW) => callsIn_wide (n := n - 1).2 (decode_at' s pos hlt WW hTT))
      have hwd := Lib.decodeL_width (s.data.toList.drop pos)
      have hle := Lib.decodeL_le (s.data.toList.drop pos) hne
      rw [List.length_drop, show s.data.toList.length = s.size by simp] at hle
      have hbo := decodeL_bound (s.data.toList.drop pos)
      have hpl : pre.length < (strm s.data.toList).length := by
        rw [HST.out, List.length_append]
        cases hb : badB (s.data.toList.drop pos)
        · rw [strm_step _ hne hb, List.length_cons]; omega
        · rw [strm_bad _ hne hb, List.length_cons]; omega
      have HPL := Lib.hid hpl
      clear hpl
      cases hbd : badB (s.data.toList.drop pos)
      · have HN := Lib.hid (strm_step _ hne hbd)
        rw [List.drop_drop] at HN
        have hnb : ¬ ((Lib.decodeL (s.data.toList.drop pos)).1 = 65533 ∧ (Lib.decodeL (s.data.toList.drop pos)).2 = 1) := by
          unfold badB at hbd
          exact of_decide_eq_false hbd
        clear hne hbd
        generalize (Lib.decodeL (s.data.toList.drop pos)).1 = r at K hbo HN hnb
        generalize (Lib.decodeL (s.data.toList.drop pos)).2 = k at K hwd hle HN hnb
        have hr2 : (r : Int) ≤ 1114111 := by omega
        have hk2 : (pos : Int) + (k : Int) ≤ (s.size : Int) := by omega
        have hs2 : (s.size : Int) ≤ 1048576 := by omega
        by_cases hr : r = 65533
        · have hk1 : ((k : Int) == 1) = false := by rw [beq_eq_false_iff_ne]; omega
          have hr1 : ((r : Int) == 65533) = true := by rw [beq_iff_eq]; omega
          clear hr hnb
          gi_wp2_with fail
          refine ⟨trivial, (K.out _ HT.out).mono ?_⟩
          rintro e w1 ⟨rfl, hb1⟩
          have hJ1 : J pre w1 := hJ pre wr w1 none hJs ⟨hb1.os, hb1.tape, hb1.output, hb1.size, fun i hi _ => hb1.block i hi⟩ (fun r e => by cases e)
          have HN1 := Lib.hid (HNX.out.trans (KpT.of_below hb1 HW.out hBw))
          have hBs1 : w1.cell? ⟨Bs, 0, none⟩ = some (.string s) := (hb1.cell (p := ⟨Bs, 0, none⟩) hBw).trans hBs'
          obtain ⟨fn, tmps, assign, body, hy, hR⟩ := hY pre ((r : Int), true) w1 hJ1 HPL.out
          dsimp only [encP] at hy
          clear hb1 hY
          gi_wp2
          refine hR.mono ?_
          rintro e W3 (⟨rfl, hJ3, hk3⟩ | ⟨rfl, hJx3⟩)
          · gi_wp2
            go_roundw
            case rel => exact ⟨pos + k, pre ++ [((r : Int), true)], by omega, by go_num, by rw [HST.out, HN.out]; simp, hJ3, HN1.out.trans hk3⟩
            case measure => simp [intOf]; omega
          · gi_wp2
            refine bodyPost_ret (results_none rfl _ _ _) rfl ?_
            exact ⟨⟨_, rfl⟩, .inr ⟨pre ++ [((r : Int), true)], ⟨strm (s.data.toList.drop (pos + k)), by rw [HST.out, HN.out]; simp⟩, hJx3⟩⟩
        · have hr1 : ((r : Int) == 65533) = false := by rw [beq_eq_false_iff_ne]; omega
          clear hr hnb
          gi_wp2_with fail
          refine ⟨trivial, (K.out _ HT.out).mono ?_⟩
          rintro e w1 ⟨rfl, hb1⟩
          have hJ1 : J pre w1 := hJ pre wr w1 none hJs ⟨hb1.os, hb1.tape, hb1.output, hb1.size, fun i hi _ => hb1.block i hi⟩ (fun r e => by cases e)
          have HN1 := Lib.hid (HNX.out.trans (KpT.of_below hb1 HW.out hBw))
          have hBs1 : w1.cell? ⟨Bs, 0, none⟩ = some (.string s) := (hb1.cell (p := ⟨Bs, 0, none⟩) hBw).trans hBs'
          obtain ⟨fn, tmps, assign, body, hy, hR⟩ := hY pre ((r : Int), true) w1 hJ1 HPL.out
          dsimp only [encP] at hy
          clear hb1 hY
          gi_wp2
          refine hR.mono ?_
          rintro e W3 (⟨rfl, hJ3, hk3⟩ | ⟨rfl, hJx3⟩)
          · gi_wp2
            go_roundw
            case rel => exact ⟨pos + k, pre ++ [((r : Int), true)], by omega, by go_num, by rw [HST.out, HN.out]; simp, hJ3, HN1.out.trans hk3⟩
            case measure => simp [intOf]; omega
          · gi_wp2
            refine bodyPost_ret (results_none rfl _ _ _) rfl ?_
            exact ⟨⟨_, rfl⟩, .inr ⟨pre ++ [((r : Int), true)], ⟨strm (s.data.toList.drop (pos + k)), by rw [HST.out, HN.out]; simp⟩, hJx3⟩⟩
      · have HN := Lib.hid (strm_bad _ hne hbd)
        have hd : (Lib.decodeL (s.data.toList.drop pos)).1 = 65533 ∧ (Lib.decodeL (s.data.toList.drop pos)).2 = 1 := by
          unfold badB at hbd
          exact of_decide_eq_true hbd
        rw [hd.1, hd.2] at K
        clear hne hbd hd hwd hle hbo
        gi_wp2_with fail
        refine ⟨trivial, (K.out _ HT.out).mono ?_⟩
        rintro e w1 ⟨rfl, hb1⟩
        have hJ1 : J pre w1 := hJ pre wr w1 none hJs ⟨hb1.os, hb1.tape, hb1.output, hb1.size, fun i hi _ => hb1.block i hi⟩ (fun r e => by cases e)
        have HN1 := Lib.hid (HNX.out.trans (KpT.of_below hb1 HW.out hBw))
        have hBs1 : w1.cell? ⟨Bs, 0, none⟩ = some (.string s) := (hb1.cell (p := ⟨Bs, 0, none⟩) hBw).trans hBs'
        obtain ⟨fn, tmps, assign, body, hy, hR⟩ := hY pre ((0 : Int), false) w1 hJ1 HPL.out
        dsimp only [encP] at hy
        clear hb1 hY
        gi_wp2
        refine hR.mono ?_
        rintro e W3 (⟨rfl, hJ3, hk3⟩ | ⟨rfl, hJx3⟩)
        · gi_wp2
          refine bodyPost_ret (results_none rfl _ _ _) rfl ?_
          exact ⟨⟨_, rfl⟩, .inl ⟨_, by rw [HST.out, HN.out], hJ3⟩⟩
        · gi_wp2
          refine bodyPost_ret (results_none rfl _ _ _) rfl ?_
          exact ⟨⟨_, rfl⟩, .inr ⟨_, ⟨[], by rw [HST.out, HN.out]; simp⟩, hJx3⟩⟩
    · obtain rfl : pos = s.size := by omega
      gi_wp2
      go_end0
      refine ⟨⟨_, rfl⟩, .inl ⟨pre, ?_, hJs⟩⟩
      have h := HST.out
      rw [List.drop_eq_nil_of_le (by rw [show s.data.toList.length = s.size by simp]; exact Nat.le_refl _), strm_nil, List.append_nil] at h
      exact h.symm
theorem pointsIn_in (n : Nat) (s : ByteArray) (w : World) :
    CallsIn Fence.wide n Tryz.prog 92 #[.string s] w fun e w' => e = .returned (.func (.func 117) #[] #[.pointer (some ⟨w.heap.size, 0, none⟩)]) ∧ w' = w.alloc (.cells #[.string s] 9) := by
  refine callsIn_of_wp Tryz.func92 rfl trivial ?_ rfl
  simp only [Tryz.ntmps92, List.size_toArray, List.length_cons, List.length_nil, Nat.reduceAdd, Nat.reduceSub, Array.replicate_succ, Array.replicate_zero, List.push_toArray, List.append_toArray, List.nil_append, List.cons_append]
  gi_wp2
  go_ret
  exact ⟨rfl, rfl⟩
theorem iter_stops (n : Nat) (hn : 1 ≤ n) (Bs n₀ : Nat) (s : ByteArray) (hs : s.size ≤ 1048576) (h2 : GsLt n₀) (w : World) (hB : Bs < w.heap.size) (hn₀ : n₀ ≤ w.heap.size) (hc : w.cell? ⟨Bs, 0, none⟩ = some (.string s))
    (hT : Tabs w) :
    SeqStopsK Fence.wide n Tryz.prog 117 #[.pointer (some ⟨Bs, 0, none⟩)] encP (KpT n₀ Bs) (fun ys => ys = strm s.data.toList) (fun pre => pre <+: strm s.data.toList) (strm s.data.toList).length w :=
  fun l J Jx W hW hJ hJx hY h0 =>
    iter_in n hn l Bs n₀ s hs h2 W.heap.size J Jx hJ hY W (Nat.le_trans hn₀ hW.size) (Nat.lt_of_lt_of_le hB hW.size) ((hW.cell (p := ⟨Bs, 0, none⟩) hB).trans hc) (tabs_kept hT hW) h0
theorem keeps_below {W W' : World} (h : Below W.heap.size W W') : KeepsOthers W W' :=
  ⟨h.size, fun k o hk _ => (h.block k (Array.getElem?_eq_some_iff.1 hk).1).trans hk⟩
attribute [local go_sem] Oper.semAt_some
theorem bool_int {a b : Int} (h : a = b) : Ending.returned (.int .i64 a) = .returned (.int .i64 b) := by rw [h]
def cfault (b : Bool) : Int := if b then 0 else 5
theorem prefix_bad {l : List UInt8} {pre : List (Int × Bool)} (hp : pre <+: strm l) (hb : pre.all goodB = false) : charsB l = false := by
  unfold charsB
  rw [Bool.eq_false_iff] at hb ⊢
  intro h
  apply hb
  rw [List.all_eq_true] at h ⊢
  exact fun x hx => h x (hp.subset hx)
set_option maxRecDepth 100000 in
set_option maxHeartbeats 4000000 in
theorem implTextFault_in (s : ByteArray) (hs : s.size ≤ 60) (w : World) (hT : Tabs w) :
    CallsIn Fence.wide 6 Tryz.prog 57 #[.string s] w fun e W' => e = .returned (.int .i64 (cfault (charsB s.data.toList))) ∧ Below w.heap.size w W' := by
  refine callsIn_of_wp_marks Tryz.func57 rfl trivial ?_ rfl
  simp only [Tryz.ntmps57, List.size_toArray, List.length_cons, List.length_nil, Nat.reduceAdd, Nat.reduceSub, Array.replicate_succ, Array.replicate_zero, List.push_toArray, List.append_toArray, List.nil_append, List.cons_append]
  gi_wp2_with (refine ⟨trivial, ?_⟩; gi_at_call 92; refine (pointsIn_in _ _ _).mono ?_; rintro e w' ⟨rfl, rfl⟩)
  have bR := Boxed.new w 2 (.int .i64 0)
  have bT := Boxed.new (w.alloc (.cells #[.int .i64 0] 2)) 9 (.string s)
  rw [World.size_alloc] at bT
  have hB0 : Below w.heap.size w ((w.alloc (.cells #[.int .i64 0] 2)).alloc (.cells #[.string s] 9)) := below2 w _ _
  refine wpIn_rangeFunc_ownF rfl (by omega) (gf := 117) (lb := #[.pointer (some ⟨w.heap.size + 1, 0, none⟩)]) rfl trivial (enters_of Tryz.func117 (by kernel_rfl) rfl)
    (iter_stops _ (by omega) (w.heap.size + 1) w.heap.size s (by omega) (gs_of_tabs hT) _ (by simp) (by simp; omega) bT.cell (tabs_kept hT hB0)) (fun h k => KpT.trans h k) (kpT_b (by simp; omega) (by simp)) (Below.refl _ _) (fun _ => rfl)
    (fun pre W => (pre.all goodB = true ∧ Boxed W w.heap.size 2 (.int .i64 0) ∧ Boxed W (w.heap.size + 1) 9 (.string s)) ∧ Below w.heap.size w W)
    (fun c pre W => (c = .ret ∧ pre.all goodB = false ∧ Boxed W w.heap.size 2 (.int .i64 5)) ∧ Below w.heap.size w W)
    (OwnFrom.and (Own.from (fun s A B row hs hg hr => ⟨hs.1, hs.2.1.kept hg (fun e => by obtain ⟨o, ho, hc⟩ := hr _ e.symm; rw [show A.heap[_]? = _ from hs.2.1] at ho; cases ho; cases hc), hs.2.2.kept hg (fun e => by obtain ⟨o, ho, hc⟩ := hr _ e.symm; rw [show A.heap[_]? = _ from hs.2.2] at ho; cases ho; cases hc)⟩) _) (ownFrom_below (Nat.le_refl _) (by simp; omega)))
    (fun c => OwnFrom.and (Own.from (fun s A B row hs hg hr => ⟨hs.1, hs.2.1, hs.2.2.kept hg (fun e => by obtain ⟨o, ho, hc⟩ := hr _ e.symm; rw [show A.heap[_]? = _ from hs.2.2] at ho; cases ho; cases hc)⟩) _) (ownFrom_below (Nat.le_refl _) (by simp; omega)))
    ⟨⟨rfl, bR.alloc _, bT⟩, hB0⟩
    (fun x => { tmps := #[.string s, undef, .pointer (some ⟨w.heap.size, 0, none⟩), .int .i64 x.1, .bool x.2, .string s, .int .i64 s.size, .bool (decide ((60 : Int) < (s.size : Int))), .string s, .func (.func 117) #[] #[.pointer (some ⟨w.heap.size + 1, 0, none⟩)], .int .i64 x.1, .bool x.2, undef, undef, undef, undef, undef, undef, undef], defers := [] }) ?assign ?body ?done ?stop
  case assign =>
    intro l x W K hK
    unfold encP
    gi_wp2
    exact hK
  case body =>
    rintro l pre ⟨p, ok⟩ W ⟨⟨hall, hR, hTx⟩, hB⟩ _
    have hc := hR.cell
    have hf := hR.frozen
    have HA := Lib.hid hall
    clear hall
    cases ok
    · gi_wp2
      refine ⟨trivial, ?_⟩
      gi_wp2
      exact ⟨KeepsOthers.setCell _ _ _, ⟨rfl, by rw [List.all_append, HA.out]; rfl, hR.set _⟩, hB.setCell (p := ⟨w.heap.size, 0, none⟩) (Nat.le_refl _) _⟩
    · cases hcb : charB p
      · have HC := Lib.hid hcb
        gi_wp2_with (refine ⟨trivial, ?_⟩; gi_at_call 93; refine (CallsIn.inRound l (callsIn_wide.2 (implIsChar_any p _))).mono ?_; rintro e w1 ⟨rfl, hb1⟩; have hR1 : Boxed w1 w.heap.size 2 (.int .i64 0) := (hb1.block _ hR.lt).trans hR; have hc1 := hR1.cell; have hf1 := hR1.frozen)
        exact ⟨(keeps_below hb1).trans (KeepsOthers.setCell _ _ _), ⟨rfl, by rw [List.all_append, HA.out]; simp [goodB, HC.out], hR1.set _⟩, (hB.trans (hb1.mono hB.size)).setCell (p := ⟨w.heap.size, 0, none⟩) (Nat.le_refl _) _⟩
      · have HC := Lib.hid hcb
        gi_wp2_with (refine ⟨trivial, ?_⟩; gi_at_call 93; refine (CallsIn.inRound l (callsIn_wide.2 (implIsChar_any p _))).mono ?_; rintro e w1 ⟨rfl, hb1⟩)
        exact ⟨keeps_below hb1, KpT.of_below hb1 hB.size hTx.lt, ⟨by rw [List.all_append, HA.out]; simp [goodB, HC.out], (hb1.block _ hR.lt).trans hR, (hb1.block _ hTx.lt).trans hTx⟩, hB.trans (hb1.mono hB.size)⟩
  case done =>
    rintro D ys W hD rfl ⟨⟨hall, hR, hTx⟩, hB⟩ hK
    have hc := hR.cell
    have hf := hR.frozen
    gi_wp2
    have hK' := (KeepsOthers.setCell W ⟨w.heap.size, 0, none⟩ (.int .i64 0)).same D _ hK rfl
    refine ⟨by simp, .inl ⟨_, _, rfl, run_takeDeferred hK', ?_⟩⟩
    have hc5 := cell_kept (hR.set (.int .i64 0)).cell (grownBy_putObj' _ D (.deferred none)) (fun r e => by cases e; exact ⟨_, hK', rfl⟩)
    refine ⟨.int .i64 0, ?_, bool_int (by unfold charsB; rw [hall]; rfl), (hB.setCell (p := ⟨w.heap.size, 0, none⟩) (Nat.le_refl _) _).trans (belowK_b (w := w) (Nat.le_refl _) _ D _ _ (by simp at hD; omega) hK' rfl rfl)⟩
    simp [results, Tryz.f57, go_sem, hc5]
  case stop =>
    rintro D c pre W hD hpre ⟨⟨rfl, hbad, hR⟩, hB⟩ hK
    gi_wp2
    refine ⟨by simp, .inl ⟨_, _, rfl, run_takeDeferred hK, ?_⟩⟩
    have hc5 := cell_kept hR.cell (grownBy_putObj' _ D (.deferred none)) (fun r e => by cases e; exact ⟨_, hK, rfl⟩)
    refine ⟨.int .i64 5, ?_, bool_int (by rw [prefix_bad hpre hbad]; rfl), hB.trans (belowK_b (w := w) (Nat.le_refl _) W D _ _ (by simp at hD; omega) hK rfl rfl)⟩
    simp [results, Tryz.f57, go_sem, hc5]
theorem implTextFault_any (s : ByteArray) (hs : s.size ≤ maxLen) (w : World) (hT : Tabs w) :
    Calls Tryz.prog 57 #[.string s] w fun e w' => e = .returned (.int .i64 (textFault s.data.toList)) ∧ Below w.heap.size w w' := by
  have hl : s.data.toList.length = s.size := by simp
  unfold textFault
  rw [hl]
  by_cases h : 60 < s.size
  · rw [if_pos h]
    clear hl
    unfold maxLen at hs
    go_enter Tryz.func57, Tryz.ntmps57
    go_wp2
    exact bodyPost_ret (v := .int .i64 2) (by simp [results, Tryz.results57, go_sem]) rfl ⟨rfl, below1 w _⟩
  · rw [if_neg h]
    exact callsIn_wide.1 (implTextFault_in s (by omega) w hT)
end Go.Proofs.YtjkmgpomcnplnaaGreatDoor
namespace Go.Proofs.YtjkmgpomcnplnaaGreatDoor
open Go.ChangeShapes Go.WideShapes Go.ChangeAt Go.RowKit
set_option linter.unusedVariables false
set_option maxRecDepth 100000 in
set_option maxHeartbeats 1600000 in
theorem implAttrs_any (a : Option Addr) (n c : Nat) (l : List At) (w : World) (hT : Tabs w) (h : AtsAt w a n c l) :
    Calls Tryz.prog 178 #[.slice a n c] w fun e w' => e = .returned (.int .i64 (attrsCode l)) ∧ Below w.heap.size w w' := by
  have hm := h.max
  have HR := Lib.hid h.row
  have HL := Lib.hid h.len
  have HT := Lib.hid hT
  have HZ := Lib.hid h.size
  by_cases h5 : 5 < n
  · have HC := Lib.hid (attrsCode_many (l := l) (by have := h.len; omega))
    clear h hT
    generalize attrsCode l = cd at HC
    go_enter Tryz.func178, Tryz.ntmps178
    go_wp2
    go_ret
    exact ⟨ret_i HC.out.symm, Below.refl _ _⟩
  · have HC1 : Hid (∀ k, k < n → (∀ j, j < k → atFault (l.getD j dAt) = 0) → atFault (l.getD k dAt) ≠ 0 → attrsCode l = atFault (l.getD k dAt)) := Lib.hid fun k hk h0 h1 => attrsCode_at (by have := h.len; omega) (by have := h.len; omega) h0 h1
    have HC2 : Hid ((∀ j, j < n → atFault (l.getD j dAt) = 0) → attrsCode l = if rises l = true then 0 else 6) := Lib.hid fun h0 => attrsCode_end (by have := h.len; omega) (fun j hj => h0 j (by have := h.len; omega))
    clear h hT
    generalize attrsCode l = cd at HC1 HC2
    go_enter Tryz.func178, Tryz.ntmps178
    go_wp2
    go_loopw [12] (fun i wr => ∃ k : Nat, k ≤ n ∧ i = .int .i64 k ∧ (∀ j, j < k → atFault (l.getD j dAt) = 0) ∧ Below w.heap.size w wr) (fun i _ => n - (intOf i).toNat)
    case atStart => exact ⟨0, Nat.zero_le _, rfl, fun j hj => by omega, Below.refl _ _⟩
    case round =>
      obtain ⟨k, hk, rfl, hz, hb⟩ := hrel
      have HK := Lib.hid hz
      clear hz
      by_cases hlt : k < n
      · rcases HR.out with e0 | ⟨b, o, rfl, h3, h4⟩
        · omega
        have d0 := (hb.cell (p := ⟨b, o + k * 2, none⟩) h3).trans (h4 k hlt).1
        have d1 := (hb.cell (p := ⟨b, o + k * 2 + 1, none⟩) h3).trans (h4 k hlt).2
        have HX := Lib.hid (HZ.out k)
        have HY : Hid (atFault (l.getD k dAt) ≠ 0 → cd = atFault (l.getD k dAt)) := Lib.hid (HC1.out k hlt HK.out)
        have HK2 : Hid (atFault (l.getD k dAt) = 0 → ∀ j, j < k + 1 → atFault (l.getD j dAt) = 0) := Lib.hid fun hx j hj => by
          rcases Nat.lt_or_ge j k with h | h
          · exact HK.out j h
          · obtain rfl : j = k := by omega
            exact hx
        have hbb := h3
        clear h4 h3
        generalize l.getD k dAt = x at d0 d1 HX HY HK2
        obtain ⟨s, t⟩ := x
        dsimp only at d0 d1
        have hsm : s.size ≤ 9223372036854775807 := HX.out.1
        have htm : t.size ≤ 9223372036854775807 := HX.out.2
        have HB := Lib.hid hb
        clear hb
        cases hkey : isKeyL s
        · have HKEY := Lib.hid hkey
          go_wp2_with fail
          refine (implIsKey_any s (by unfold maxLen; omega) _).mono ?_
          rintro e w1 ⟨rfl, hb1⟩
          go_wp2
          go_ret
          have e5 : atFault ⟨s, t⟩ = 5 := by unfold atFault; rw [show (⟨s, t⟩ : At).name = s from rfl, HKEY.out]; rfl
          exact ⟨ret_i (by rw [HY.out (by rw [e5]; decide), e5]), below_then HB.out (below_then (below1 _ _) hb1)⟩
        · have HKEY := Lib.hid hkey
          have ef : atFault ⟨s, t⟩ = textFault t.data.toList := by unfold atFault; rw [show (⟨s, t⟩ : At).name = s from rfl, hkey]; rfl
          rw [ef] at HY HK2
          have K := Lib.hid (fun W (hb' : Below w.heap.size w W) => implTextFault_any t (HX.out.2) W (tabs_kept HT.out hb'))
          generalize textFault t.data.toList = tf at HY HK2 K
          by_cases h0 : tf = 0
          · subst h0
            have HK3 := Lib.hid (HK2.out rfl)
            clear HK2 HY ef
            go_wp2_with fail
            refine (implIsKey_any s (by unfold maxLen; omega) _).mono ?_
            rintro e w1 ⟨rfl, hb1⟩
            obtain ⟨hc, hf⟩ := bcell hb1
            have hz := hb1.size
            simp at hz
            have HB1 := Lib.hid (below_then HB.out (below_then (below1 _ _) hb1))
            clear hb1
            go_wp2_with fail
            refine (K.out _ HB1.out).mono ?_
            rintro e w2 ⟨rfl, hb2⟩
            go_wp2
            go_roundw
            case rel => exact ⟨k + 1, by omega, by go_num, HK3.out, below_then HB1.out hb2⟩
            case measure => simp [intOf]; omega
          · have HY2 := Lib.hid (HY.out h0)
            have q1 : (tf != 0) = true := by simpa using h0
            have q2 : (tf == 0) = false := by simpa using h0
            clear HK2 HY ef h0
            go_wp2_with fail
            refine (implIsKey_any s (by unfold maxLen; omega) _).mono ?_
            rintro e w1 ⟨rfl, hb1⟩
            obtain ⟨hc, hf⟩ := bcell hb1
            have hz := hb1.size
            simp at hz
            have HB1 := Lib.hid (below_then HB.out (below_then (below1 _ _) hb1))
            clear hb1
            go_wp2_with fail
            refine (K.out _ HB1.out).mono ?_
            rintro e w2 ⟨rfl, hb2⟩
            go_wp2
            go_ret
            exact ⟨ret_i HY2.out.symm, below_then HB1.out hb2⟩
      · obtain rfl : k = n := by omega
        have HC3 := Lib.hid (HC2.out HK.out)
        clear HC1 HC2 HK
        go_wp2
        go_loopw [6] (fun i wx => ∃ k2 : Nat, 1 ≤ k2 ∧ (k2 ≤ k ∨ k2 = 1) ∧ i = .int .i64 k2 ∧ (∀ j, 1 ≤ j → j < k2 → lessAt (l.getD (j - 1) dAt) (l.getD j dAt) = true) ∧ Below w.heap.size w wx) (fun i _ => k - (intOf i).toNat)
        case atStart => exact ⟨1, Nat.le_refl _, .inr rfl, rfl, fun j h1 h2 => by omega, hb⟩
        case round =>
          obtain ⟨k2, hk1, hk2, rfl, hz2, hb2⟩ := hrel
          have HZ2 := Lib.hid hz2
          clear hz2
          by_cases hlt2 : k2 < k
          · rcases HR.out with e0 | ⟨b, o, rfl, h3, h4⟩
            · omega
            have d0 := (hb2.cell (p := ⟨b, o + k2 * 2, none⟩) h3).trans (h4 k2 hlt2).1
            have d1 := (hb2.cell (p := ⟨b, o + (k2 - 1) * 2, none⟩) h3).trans (h4 (k2 - 1) (by omega)).1
            have HN2 : Hid (lessAt (l.getD (k2 - 1) dAt) (l.getD k2 dAt) = false → cd = 6) := Lib.hid fun e => by
              rw [HC3.out, rises_no hk1 (by have := HL.out; omega) e]; rfl
            have HY2 : Hid (lessAt (l.getD (k2 - 1) dAt) (l.getD k2 dAt) = true → ∀ j, 1 ≤ j → j < k2 + 1 → lessAt (l.getD (j - 1) dAt) (l.getD j dAt) = true) := Lib.hid fun e j h1 h2 => by
              rcases Nat.lt_or_ge j k2 with h | h
              · exact HZ2.out j h1 h
              · obtain rfl : j = k2 := by omega
                exact e
            have q0 : (k2 : Int) < (k : Int) := by omega
            have q1 : (0 : Int) ≤ (k2 : Int) - 1 := by omega
            have q2 : (1 : Int) ≤ (k2 : Int) := by omega
            have q3 : (k2 : Int) - 1 < (k : Int) := by omega
            clear h4 h3
            generalize l.getD k2 dAt = x at d0 HN2 HY2
            generalize l.getD (k2 - 1) dAt = y at d1 HN2 HY2
            obtain ⟨s, t⟩ := x
            obtain ⟨s2, t2⟩ := y
            unfold lessAt at HN2 HY2
            dsimp only at d0 d1 HN2 HY2
            have HB2 := Lib.hid hb2
            clear hb2
            cases hless : Op.bytesLess s2.toList s.toList
            · have HF := Lib.hid (HN2.out hless)
              clear HN2 HY2
              go_wp2_with fail
              go_quiet (fail)
              go_wp2
              go_ret
              exact ⟨ret_i HF.out.symm, below_drewN HB2.out _⟩
            · have HF := Lib.hid (HY2.out hless)
              clear HN2 HY2
              go_wp2_with fail
              go_quiet (fail)
              go_wp2
              go_roundw
              case rel => exact ⟨k2 + 1, by omega, .inl (by omega), by go_num, HF.out, below_drewN HB2.out _⟩
              case measure => simp [intOf]; omega
          · have HF : Hid (cd = 0) := Lib.hid (by
              rw [HC3.out, rises_yes fun i h1 h2 => HZ2.out i h1 (by have := HL.out; omega)]; rfl)
            go_wp2
            go_ret
            exact ⟨ret_i HF.out.symm, hb2⟩
theorem partOf_text (b o : Nat) (x : It) (w : World) (h : ItAt w b o x) (hx : x.name.toList.isEmpty = true) :
    Calls Tryz.prog 33 #[.pointer (some ⟨b, o, none⟩)] w fun e w' => e = .returned (.iface 87 (.agg #[.pointer (some ⟨b, o, none⟩)])) ∧ w' = w := by
  have d3 := h.c3
  clear h
  go_enter Tryz.func33, Tryz.ntmps33
  go_wp2
  go_ret
  exact ⟨rfl, rfl⟩
theorem partOf_elem (b o : Nat) (x : It) (w : World) (h : ItAt w b o x) (hx : x.name.toList.isEmpty = false) :
    Calls Tryz.prog 33 #[.pointer (some ⟨b, o, none⟩)] w fun e w' => e = .returned (.iface 88 (.agg #[.pointer (some ⟨b, o, none⟩)])) ∧ w' = w := by
  have d3 := h.c3
  clear h
  go_enter Tryz.func33, Tryz.ntmps33
  go_wp2
  go_ret
  exact ⟨rfl, rfl⟩
end Go.Proofs.YtjkmgpomcnplnaaGreatDoor
