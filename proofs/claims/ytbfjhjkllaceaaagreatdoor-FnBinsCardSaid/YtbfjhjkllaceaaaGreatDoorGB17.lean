/- Texts laid together, part 17. -/
import Derived.Test.YtbfjhjkllaceaaaGreatDoorGB16
import Derived.Deep.RegionHeld3
import Derived.Deep.DeepCutAuto

/- The program's UnpackTree. -/
namespace Go.Proofs.YtbfjhjkllaceaaaGreatDoor
open Go.ChangeShapes Go.WideShapes Go.ChangeAt Go.RowKit
set_option linter.unusedVariables false

/-- the book is empty again -/
def Forgot (K : Nat → Prop) (w0 w : World) (b m : Nat) (g : Option Nat) (e : Ending) (w' : World) : Prop :=
  e = .returned (.tuple #[]) ∧ BookAt K w0 w' b m none [] ∧ Only (BookP b m g) w w'
set_option maxHeartbeats 1600000 in
theorem forget_any (K : Nat → Prop) (w0 : World) (b m : Nat) (g : Option Nat) (ts : List ByteArray) (w : World) (h : BookAt K w0 w b m g ts) :
    Calls Tryz.prog 35 #[.pointer (some ⟨b, 0, none⟩)] w (Forgot K w0 w b m g) := by
  unfold Forgot
  obtain ⟨a, n, c, q0, hown, hgl⟩ := h.c0
  obtain ⟨D, hmap, hp⟩ := h.map
  have q1 := h.c1
  have f0 := h.f0
  have HB := Lib.hid h
  have HMAP := Lib.hid hmap
  have hlt := h.lt
  clear h hown hgl hmap hp
  go_enter Tryz.func35, Tryz.ntmps35
  go_wp2_with (with_reducible refine wpList_clear_own _ rfl _ 46 rfl 9 2 Tryz.underlying46 (plainElem (H := Unit) Tryz.prog 2) m ts.length D rfl HMAP.out ?_)
  intro w1 hown1 hturn1
  have hg1 := hturn1.grown
  have hap := HB.out.apart
  have hbm : some b ≠ some m := fun e => hap.2.2 (Option.some.inj e).symm
  have k0 := same_grown hg1 hlt hbm 0
  have k1 := same_grown hg1 hlt hbm 1
  have p0 := k0.1.trans q0
  have p1 := k1.1.trans q1
  have pf0 := k0.2.trans f0
  have pf1 := k1.2.trans HB.out.f1
  have hlt1 : b < w1.heap.size := Nat.lt_of_lt_of_le hlt hg1.size
  have HM1 := Lib.hid hown1
  have HO1 : Hid (Only (BookP b m g) w w1) := Lib.hid (Only.grownP hg1 (fun k hk => by cases hk; exact .inr (.inl rfl)))
  have HK1 := Lib.hid (HB.out.on.grownK hg1 (fun k hk => by cases hk; exact .inl HB.out.mge))
  have HPF1 := Lib.hid pf1
  clear hown1 hturn1 hg1 k0 k1 q0 q1 f0 pf1
  go_wp2
  go_end0
  exact ⟨rfl, ⟨by simpa using hlt1, HB.out.ge, HB.out.mge, HK1.out.trans (Only.set w1 _ _ HB.out.ge), ⟨none, 0, 0, set_at p0, World.ownsRow_nil _ _ _ _, rfl⟩, set_oth (by decide) p1, ⟨_, HM1.out.setCell hap.2.2 _, Places.empty⟩, ⟨by simp, by simp, hap.2.2⟩, by rw [World.frozen?_setCell]; exact pf0, by rw [World.frozen?_setCell]; exact HPF1.out⟩, HO1.out.trans (Only.set w1 _ _ (.inl rfl))⟩

set_option maxHeartbeats 800000 in
theorem bytesEqual_any (v1 v2 : Value) (xs ys : List Int) (w : World) (h1 : Row w .u8 v1 xs) (h2 : Row w .u8 v2 ys) (hx : ∀ x ∈ xs, 0 ≤ x ∧ x < 256) (hy : ∀ x ∈ ys, 0 ≤ x ∧ x < 256) :
    Calls Tryz.prog 36 #[v1, v2] w fun e w' => e = .returned (.bool (decide (xs = ys))) ∧ w' = w := by
  obtain ⟨a1, n1, c1, rfl⟩ : ∃ a n c, v1 = .slice a n c := by
    rcases h1 with ⟨rfl, _⟩ | ⟨b, o, c, rfl, _⟩
    · exact ⟨_, _, _, rfl⟩
    · exact ⟨_, _, _, rfl⟩
  obtain ⟨a2, n2, c2, rfl⟩ : ∃ a n c, v2 = .slice a n c := by
    rcases h2 with ⟨rfl, _⟩ | ⟨b, o, c, rfl, _⟩
    · exact ⟨_, _, _, rfl⟩
    · exact ⟨_, _, _, rfl⟩
  have e1 := conv_row (P := Tryz.prog) w Tryz.underlying22 Tryz.underlying5 Tryz.underlying9 h1
  have e2 := conv_row (P := Tryz.prog) w Tryz.underlying22 Tryz.underlying5 Tryz.underlying9 h2
  have ht := nums_test xs ys hx hy
  generalize decide (xs = ys) = bb at ht ⊢
  clear h1 h2 hx hy
  go_enter Tryz.func36, Tryz.ntmps36
  go_wp2
  go_ret
  exact ⟨ret_bool (by first | rfl | exact ht | simpa using ht), rfl⟩

theorem BookAt.renew {K : Nat → Prop} {w0 w : World} {b m : Nat} {ts : List ByteArray} (h : BookAt K w0 w b m none ts) : BookAt (fun i => i = b ∨ i = m) w w b m none ts := by
  obtain ⟨a, n, c, h1, h2, h3⟩ := h.c0
  rcases h2.2 with ⟨hv, h0⟩ | ⟨g, cap, cur, hv, _⟩
  · have hl := ownsS_length h2
    have ht : ts = [] := List.length_eq_zero_iff.1 (by omega)
    subst ht
    exact ⟨h.lt, .inl rfl, .inr rfl, Only.refl _, ⟨none, 0, 0, by rw [h1, hv], World.ownsRow_nil _ _ _ _, rfl⟩, h.c1, h.map, h.apart, h.f0, h.f1⟩
  · rw [hv] at h3
    cases h3
theorem BookAt.fresh {w w1 : World} {m : Nat} {T : TypeId} {v : Value} (hW : Below w.heap.size w w1) (hm : w.heap.size ≤ m) (hm2 : m < w1.heap.size) (hmap : w1.ownsMap Tryz.prog 9 (plainElem (H := Unit) Tryz.prog 2) m 0 (.map [])) :
    BookAt (fun i => w.heap.size ≤ i) w (w1.alloc (.cells #[.slice none 0 0, .map (some m), v] T)) w1.heap.size m none [] :=
  ⟨by simp, hW.size, hm, Only.below (hW.alloc hW.size _), ⟨none, 0, 0, by simp, World.ownsRow_nil _ _ _ _, rfl⟩, by simp, ⟨_, hmap.alloc _, Places.empty⟩, ⟨by simp, by simp, by omega⟩, by simp, by simp⟩
theorem R2.only {P : Nat → Prop} {w w' : World} {b : Nat} {v0 v1 : Value} (h : R2 w b v0 v1) (ho : Only P w w') (hn : ¬ P b) : R2 w' b v0 v1 :=
  ⟨Nat.lt_of_lt_of_le h.lt ho.size, (ho.cell (p := ⟨b, 0, none⟩) h.lt hn).trans h.c0, (ho.cell (p := ⟨b, 1, none⟩) h.lt hn).trans h.c1, (ho.frozen (p := ⟨b, 0, none⟩) h.lt hn).trans h.f0, (ho.frozen (p := ⟨b, 1, none⟩) h.lt hn).trans h.f1⟩
theorem OwnIts.far {w : World} {lo hi : Nat} {a : Option Addr} {n c : Nat} {l : List It} {K : Nat → Prop} (h : OwnIts w lo hi a n c l) (hK : ∀ i, lo ≤ i → ¬ K i) : FarIts K w a n := by
  rintro b o rfl i hi
  rcases h.row with e | ⟨b', A, N, C, ha, h1, h2, hr, hc, hab, haa⟩
  · omega
  · simp only [Option.some.injEq, Addr.mk.injEq] at ha
    obtain ⟨rfl, rfl, _⟩ := ha
    refine ⟨hK _ h1, fun a4 n4 c4 h4 x hx hn => ?_⟩
    have h5 := (hc i hi).1.c4
    rw [Nat.zero_add] at h4
    rw [h5] at h4
    simp only [Option.some.injEq, Value.slice.injEq] at h4
    obtain ⟨e1, e2, e3⟩ := h4
    obtain ⟨b5, e5, q1, q2, _⟩ := (hc i hi).2.own.resolve_left (by omega)
    rw [e1, hx] at e5
    cases e5
    exact hK _ q1

/-- the code and the items of the program's UnpackTree -/
def puCode (xs : List Int) : Int := if 3000 < xs.length then 2 else if treeCode (pI xs) = 0 ∧ packL (pI xs) = xs then 0 else 5
def puIts (xs : List Int) : List It := if 3000 < xs.length then [] else if treeCode (pI xs) = 0 ∧ packL (pI xs) = xs then pI xs else []
theorem pu_code (xs : List Int) : puCode xs = unCodeT xs := by
  unfold puCode unCodeT
  by_cases h3 : 3000 < xs.length
  · rw [if_pos h3, if_pos h3]
  · rw [if_neg h3, if_neg h3]
    by_cases h : unOk xs
    · rw [if_pos h, if_pos (p_ok.1 h)]
    · rw [if_neg h, if_neg (fun hh => h (p_ok.2 hh))]
theorem pu_its (xs : List Int) : puIts xs = unIts xs := by
  unfold puIts unIts
  by_cases h3 : 3000 < xs.length
  · rw [if_pos h3, if_pos h3]
  · rw [if_neg h3, if_neg h3]
    by_cases h : unOk xs
    · rw [if_pos h, if_pos (p_ok.1 h), p_un h]
    · rw [if_neg h, if_neg (fun hh => h (p_ok.2 hh))]

set_option maxRecDepth 100000 in
set_option maxHeartbeats 6400000 in
theorem implUnpackTree_any (a : Option Addr) (n c : Nat) (xs : List Int) (w : World) (sa : Addr) (hs : Sent w sa) (hT : Tabs w) (hn : n = xs.length) (hm : n ≤ 1048576) (h : Row w .u8 (.slice a n c) xs) (hby : ∀ i, 0 ≤ xs.getD i 0 ∧ xs.getD i 0 ≤ 255) :
    Calls Tryz.prog 9 #[.slice a n c] w (UnRes w (puCode xs) (puIts xs)) := by
  unfold UnRes
  by_cases h3 : 3000 < n
  · have e1 : puCode xs = 2 := by unfold puCode; rw [if_pos (by omega)]
    have e2 : puIts xs = [] := by unfold puIts; rw [if_pos (by omega)]
    rw [e1, e2]
    clear h hby hn e1 e2
    go_enter Tryz.func9, Tryz.ntmps9
    go_wp2
    exact bodyPost_ret (v := .agg #[.int .i64 2, .slice none 0 0]) (by simp [results, Tryz.results9, go_sem]) rfl
      ⟨none, 0, 0, rfl, no_items _ _ _, below1 w _⟩
  · have h3' : (n : Int) ≤ 3000 := by omega
    have hxl : ¬ 3000 < xs.length := by omega
    have e1 : puCode xs = if treeCode (pI xs) = 0 ∧ packL (pI xs) = xs then 0 else 5 := by unfold puCode; rw [if_neg hxl]
    have e2 : puIts xs = if treeCode (pI xs) = 0 ∧ packL (pI xs) = xs then pI xs else [] := by unfold puIts; rw [if_neg hxl]
    have KI := Lib.hid (fun (b m : Nat) (W : World) (hh : RpAt w W b m none xs []) => pitems_any w sa hs hT b m none xs W hh (by omega))
    unfold ItsP at KI
    have KE := Lib.hid emptyBook_any
    unfold EmptyRes at KE
    have HR := Lib.hid h
    have HBY := Lib.hid hby
    have HN := Lib.hid hn
    have HTB := Lib.hid hT
    generalize puCode xs = cd at e1 ⊢
    generalize puIts xs = its at e2 ⊢
    generalize pI xs = L at *
    have HC0 : Hid (treeCode L = 0 → packL L = xs → cd = 0 ∧ its = L) := Lib.hid (fun g1 g2 => by rw [e1, e2, if_pos ⟨g1, g2⟩, if_pos ⟨g1, g2⟩]; exact ⟨rfl, rfl⟩)
    have HC5 : Hid (¬ (treeCode L = 0 ∧ packL L = xs) → cd = 5 ∧ its = []) := Lib.hid (fun g => by rw [e1, e2, if_neg g, if_neg g]; exact ⟨rfl, rfl⟩)
    clear h hby hn h3 e1 e2 hs hT hxl
    go_enter Tryz.func9, Tryz.ntmps9
    go_wp2_with fail
    refine (KE.out _).mono ?_
    rintro e w1 ⟨m, rfl, hm1, hm2, hmap, hb1⟩
    have hm1' : w.heap.size + 1 ≤ m := by simpa using hm1
    have hW1 : Below w.heap.size w w1 := (below1 w _).trans (hb1.mono (by simp))
    have hz1 : w.heap.size + 1 ≤ w1.heap.size := by have := hb1.size; simpa using this
    have V1 := Lib.hid (((R2.new w 31 (.int .i64 0) (.slice none 0 0)).below hb1).below (below1 w1 (.cells #[.slice none 0 0, .map (some m), .slice a n c] 56)))
    have hbk := BookAt.fresh (T := 56) (v := .slice a n c) hW1 (by omega) hm2 hmap
    have R1 : Hid (RpAt w (w1.alloc (.cells #[.slice none 0 0, .map (some m), .slice a n c] 56)) w1.heap.size m none xs []) := Lib.hid ⟨hbk, HBY.out, ⟨a, n, c, by simp, HN.out, HR.out⟩, by simp⟩
    have K1 := Lib.hid (KI.out w1.heap.size m _ R1.out)
    clear hm1 hmap hb1 hbk
    go_wp2_with fail
    refine K1.out.mono ?_
    rintro e w3 ⟨a3, n3, c3, g3, xs3, ts3, lo, rfl, hits, hlo, hblo, hrp, hng, hon⟩
    have hB3 : Below w.heap.size w w3 := hrp.book.bel
    have hng3 : ∀ i, BookP w1.heap.size m g3 i → w.heap.size + 1 ≤ i := by
      rintro i (rfl | rfl | e)
      · omega
      · omega
      · rcases hng with rfl | ⟨k, rfl, hk⟩
        · cases e
        · simp only [Option.some.injEq] at e
          simp at hk
          omega
    have HNG := Lib.hid hng3
    have V3 := Lib.hid (V1.out.only hon (fun hp => by rcases hp with e | e | e; omega; omega; cases e))
    have HITS := Lib.hid hits
    have HB3 := Lib.hid hB3
    have HRP := Lib.hid hrp
    have HBL := Lib.hid hblo
    have KTF := Lib.hid (implTreeFault_any a3 n3 c3 L w3 (tabs_kept HTB.out hB3) hits.its)
    have hlo1 : w.heap.size + 1 ≤ lo := by simp at hlo; omega
    clear hits hlo hblo hrp hng hng3 hon hB3
    by_cases htc : treeCode L = 0
    · rw [htc] at KTF
      obtain ⟨h40, hgood⟩ := goodTree htc
      have HGD := Lib.hid hgood
      clear hgood
      go_wp2_with fail
      refine KTF.out.mono ?_
      rintro e w4 ⟨rfl, hb4⟩
      have HB4 := Lib.hid (HB3.out.trans (hb4.mono HB3.out.size))
      have V4 := Lib.hid (V3.out.below hb4)
      have OI4 := Lib.hid (own_belowI HITS.out hb4)
      have KF := Lib.hid (forget_any (fun i => w.heap.size ≤ i) w w1.heap.size m g3 ts3 w4 (HRP.out.book.keep hb4))
      unfold Forgot at KF
      clear hb4
      go_wp2_with fail
      refine KF.out.mono ?_
      rintro e w5 ⟨rfl, hbk5, ho5⟩
      have OI5 := Lib.hid (own_onlyI OI4.out ho5 (fun i hi hp => by have := HBL.out i hp; omega) (Nat.le_refl _) ho5.size)
      have HB5 := Lib.hid (Only.under HB4.out (Nat.le_refl _) ho5 (fun i hp => by have := HNG.out i hp; omega))
      have V5 := Lib.hid (V4.out.only ho5 (fun hp => by have := HNG.out _ hp; omega))
      have KP := Lib.hid (packed_any (fun i => i = w1.heap.size ∨ i = m) w5 w1.heap.size m none a3 n3 c3 L w5 hbk5.renew OI5.out.its (OI5.out.far (fun i hi hk => by rcases hk with e | e; have := HBL.out i (.inl e); omega; have := HBL.out i (.inr (.inl e)); omega)) h40 HGD.out)
      unfold FrameRes at KP
      clear hbk5 ho5
      go_wp2_with fail
      refine KP.out.mono ?_
      rintro e w6 ⟨a6, n6, c6, rfl, hr6, hk6, ho6⟩
      have OI6 := Lib.hid (own_onlyI OI5.out ho6 (fun i hi hp => by rcases hp with e | e | e; have := HBL.out i (.inl e); omega; have := HBL.out i (.inr (.inl e)); omega; cases e) (Nat.le_refl _) ho6.size)
      have HB6 := Lib.hid (Only.under HB5.out (Nat.le_refl _) ho6 (fun i hp => by rcases hp with e | e | e; omega; omega; cases e))
      have V6 := Lib.hid (V5.out.only ho6 (fun hp => by rcases hp with e | e | e; omega; omega; cases e))
      have KQ := Lib.hid (bytesEqual_any (.slice a6 n6 c6) (.slice a n c) (packL L) xs w6 (Row.of_owns hr6) (HR.out.below HB6.out) (packL_bytes L) (getD_bytes HBY.out))
      clear hr6 hk6 ho6
      by_cases hpk : packL L = xs
      · rw [decide_eq_true hpk] at KQ
        obtain ⟨rfl, rfl⟩ := HC0.out htc hpk
        clear hpk htc
        go_wp2_with fail
        refine KQ.out.mono ?_
        rintro e w7 ⟨rfl, rfl⟩
        have y0 := V6.out.c0
        have y1 := V6.out.c1
        have yf0 := V6.out.f0
        have yf1 := V6.out.f1
        have ylt := V6.out.lt
        have z0 : ((w7.setCell ⟨w.heap.size, 0, none⟩ (.int .i64 0)).setCell ⟨w.heap.size, 1, none⟩ (.slice a3 n3 c3)).cell? ⟨w.heap.size, 0, none⟩ = some (.int .i64 0) := set_oth (by decide) (set_at y0)
        have z1 : ((w7.setCell ⟨w.heap.size, 0, none⟩ (.int .i64 0)).setCell ⟨w.heap.size, 1, none⟩ (.slice a3 n3 c3)).cell? ⟨w.heap.size, 1, none⟩ = some (.slice a3 n3 c3) := set_at (set_oth (by decide) y1)
        go_wp2
        exact bodyPost_ret (v := .agg #[.int .i64 0, .slice a3 n3 c3]) (by simp [results, Tryz.results9, go_sem, z0, z1]) rfl ⟨a3, n3, c3, rfl, own_onlyI (P := fun _ => False) (own_setI (own_setI OI6.out ⟨w.heap.size, 0, none⟩ _ (by simp; omega)) ⟨w.heap.size, 1, none⟩ _ (by simp; omega)) (Only.refl _) (fun _ _ h => h) (by omega) (by simp), (HB6.out.setCell (Nat.le_refl _) _).setCell (Nat.le_refl _) _⟩
      · rw [decide_eq_false hpk] at KQ
        obtain ⟨rfl, rfl⟩ := HC5.out (fun h => hpk h.2)
        clear hpk htc
        go_wp2_with fail
        refine KQ.out.mono ?_
        rintro e w7 ⟨rfl, rfl⟩
        have y0 := V6.out.c0
        have y1 := V6.out.c1
        have yf0 := V6.out.f0
        have yf1 := V6.out.f1
        have ylt := V6.out.lt
        have z0 : ((w7.setCell ⟨w.heap.size, 0, none⟩ (.int .i64 5)).setCell ⟨w.heap.size, 1, none⟩ (.slice none 0 0)).cell? ⟨w.heap.size, 0, none⟩ = some (.int .i64 5) := set_oth (by decide) (set_at y0)
        have z1 : ((w7.setCell ⟨w.heap.size, 0, none⟩ (.int .i64 5)).setCell ⟨w.heap.size, 1, none⟩ (.slice none 0 0)).cell? ⟨w.heap.size, 1, none⟩ = some (.slice none 0 0) := set_at (set_oth (by decide) y1)
        go_wp2
        exact bodyPost_ret (v := .agg #[.int .i64 5, .slice none 0 0]) (by simp [results, Tryz.results9, go_sem, z0, z1]) rfl ⟨none, 0, 0, rfl, no_items _ _ _, (HB6.out.setCell (Nat.le_refl _) _).setCell (Nat.le_refl _) _⟩
    · obtain ⟨rfl, rfl⟩ := HC5.out (fun h => htc h.1)
      generalize treeCode L = tc at *
      have ht0 : (tc == 0) = false := by simpa using htc
      have ht1 : (tc != 0) = true := by simpa using htc
      clear htc
      go_wp2_with fail
      refine KTF.out.mono ?_
      rintro e w4 ⟨rfl, hb4⟩
      have HB4 := Lib.hid (HB3.out.trans (hb4.mono HB3.out.size))
      have V4 := Lib.hid (V3.out.below hb4)
      clear hb4
      have y0 := V4.out.c0
      have y1 := V4.out.c1
      have yf0 := V4.out.f0
      have yf1 := V4.out.f1
      have ylt := V4.out.lt
      have z0 : ((w4.setCell ⟨w.heap.size, 0, none⟩ (.int .i64 5)).setCell ⟨w.heap.size, 1, none⟩ (.slice none 0 0)).cell? ⟨w.heap.size, 0, none⟩ = some (.int .i64 5) := set_oth (by decide) (set_at y0)
      have z1 : ((w4.setCell ⟨w.heap.size, 0, none⟩ (.int .i64 5)).setCell ⟨w.heap.size, 1, none⟩ (.slice none 0 0)).cell? ⟨w.heap.size, 1, none⟩ = some (.slice none 0 0) := set_at (set_oth (by decide) y1)
      go_wp2
      exact bodyPost_ret (v := .agg #[.int .i64 5, .slice none 0 0]) (by simp [results, Tryz.results9, go_sem, z0, z1]) rfl ⟨none, 0, 0, rfl, no_items _ _ _, (HB4.out.setCell (Nat.le_refl _) _).setCell (Nat.le_refl _) _⟩
end Go.Proofs.YtbfjhjkllaceaaaGreatDoor

/- The program's PackTree and StringsOf, the model's StringsOf. -/
namespace Go.Proofs.YtbfjhjkllaceaaaGreatDoor
open Go.ChangeShapes Go.WideShapes Go.ChangeAt Go.RowKit
set_option linter.unusedVariables false

theorem ItsAt.far {w : World} {a : Option Addr} {n c : Nat} {l : List It} (h : ItsAt w a n c l) : FarIts (fun i => w.heap.size ≤ i) w a n := by
  rintro b o rfl i hi
  obtain ⟨b', o', ha, hc⟩ := h.row.resolve_left (by omega)
  simp only [Option.some.injEq, Addr.mk.injEq] at ha
  obtain ⟨rfl, rfl, _⟩ := ha
  have hit := hc i hi
  refine ⟨by have := hit.lt; omega, fun a4 n4 c4 h4 x hx hn => ?_⟩
  obtain ⟨a5, n5, c5, h5, hat⟩ := hit.c4
  rw [h4] at h5
  simp only [Option.some.injEq, Value.slice.injEq] at h5
  obtain ⟨rfl, rfl, rfl⟩ := h5
  obtain ⟨b6, o6, e6, hb6, _⟩ := hat.row.resolve_left hn
  rw [hx] at e6
  cases e6
  show ¬ w.heap.size ≤ b6
  omega
theorem BookAt.fresh2 {w w1 : World} {m : Nat} {T : TypeId} (hW : Below w.heap.size w w1) (hm : w.heap.size ≤ m) (hm2 : m < w1.heap.size) (hmap : w1.ownsMap Tryz.prog 9 (plainElem (H := Unit) Tryz.prog 2) m 0 (.map [])) :
    BookAt (fun i => w.heap.size ≤ i) w (w1.alloc (.cells #[.slice none 0 0, .map (some m)] T)) w1.heap.size m none [] :=
  ⟨by simp, hW.size, hm, Only.below (hW.alloc hW.size _), ⟨none, 0, 0, by simp, World.ownsRow_nil _ _ _ _, rfl⟩, by simp, ⟨_, hmap.alloc _, Places.empty⟩, ⟨by simp, by simp, by omega⟩, by simp, by simp⟩
theorem onlyBelow {K : Nat → Prop} {w0 w : World} (h : Only K w0 w) (hK : ∀ i, K i → w0.heap.size ≤ i) : Below w0.heap.size w0 w := ⟨h.os, h.tape, h.output, h.size, fun i hi => h.block i hi (fun hk => by have := hK i hk; omega)⟩

set_option maxRecDepth 100000 in
set_option maxHeartbeats 1600000 in
theorem implPackTree_any (a : Option Addr) (n c : Nat) (l : List It) (w : World) (hT : Tabs w) (h : ItsAt w a n c l) :
    Calls Tryz.prog 7 #[.slice a n c] w (OwnsRes2 w 5 .u8 (treeCode l) (packT l)) := by
  have KT := Lib.hid (fun (W : World) (hW : Below w.heap.size w W) => implTreeFault_any a n c l W (tabs_kept hT hW) (h.below hW))
  unfold OwnsRes2
  by_cases ht : treeCode l = 0
  · have e : packT l = packL l := by unfold packT; rw [if_pos ht]
    obtain ⟨h1, h2⟩ := goodTree ht
    have KP := Lib.hid (fun (b m : Nat) (W : World) (hb : BookAt (fun i => w.heap.size ≤ i) w W b m none []) => packed_any (fun i => w.heap.size ≤ i) w b m none a n c l W hb h h.far h1 h2)
    unfold FrameRes at KP
    have KE := Lib.hid emptyBook_any
    unfold EmptyRes at KE
    rw [e, ht]
    rw [ht] at KT
    generalize packL l = L at KP ⊢
    clear h ht e h1 h2 hT
    go_enter Tryz.func7, Tryz.ntmps7
    go_wp2_with fail
    refine (KT.out _ (below1 _ _)).mono ?_
    rintro e w1 ⟨rfl, hb1⟩
    have HW1 := Lib.hid ((below1 w _).trans (hb1.mono (by simp)))
    have V1 := Lib.hid ((R2.new w 27 (.int .i64 0) (.slice none 0 0)).below hb1)
    have hz1 : w.heap.size + 1 ≤ w1.heap.size := by have := hb1.size; simpa using this
    clear hb1
    go_wp2_with fail
    refine (KE.out _).mono ?_
    rintro e w2 ⟨m, rfl, hm1, hm2, hmap, hb2⟩
    have HB2 := Lib.hid (below_then HW1.out hb2)
    have V2 := Lib.hid ((V1.out.below hb2).below (below1 w2 (.cells #[.slice none 0 0, .map (some m)] 48)))
    have hz2 : w1.heap.size ≤ w2.heap.size := hb2.size
    have K1 := Lib.hid (KP.out w2.heap.size m _ (BookAt.fresh2 (T := 48) HB2.out (by omega) hm2 hmap))
    clear hmap hb2
    go_wp2_with fail
    refine K1.out.mono ?_
    rintro e w3 ⟨a3, n3, c3, rfl, ho3, hk3, hon3⟩
    have V3 := V2.out.only hon3 (fun hp => by rcases hp with e | e | e; omega; omega; cases e)
    have HB3 := Lib.hid (onlyBelow hk3 (fun i hi => hi))
    have HO3 := Lib.hid ho3
    have y0 := V3.c0
    have y1 := V3.c1
    have yf0 := V3.f0
    have yf1 := V3.f1
    have ylt := V3.lt
    have z0 : ((w3.setCell ⟨w.heap.size, 0, none⟩ (.int .i64 0)).setCell ⟨w.heap.size, 1, none⟩ (.slice a3 n3 c3)).cell? ⟨w.heap.size, 0, none⟩ = some (.int .i64 0) := set_oth (by decide) (set_at y0)
    have z1 : ((w3.setCell ⟨w.heap.size, 0, none⟩ (.int .i64 0)).setCell ⟨w.heap.size, 1, none⟩ (.slice a3 n3 c3)).cell? ⟨w.heap.size, 1, none⟩ = some (.slice a3 n3 c3) := set_at (set_oth (by decide) y1)
    have hz3 : w.heap.size < (w2.alloc (.cells #[.slice none 0 0, .map (some m)] 48)).heap.size := by simp; omega
    clear ho3 hk3 hon3 V3
    go_wp2
    exact bodyPost_ret (v := .agg #[.int .i64 0, .slice a3 n3 c3]) (by simp [results, Tryz.results7, go_sem, z0, z1]) rfl
      ⟨a3, n3, c3, rfl, owns_mono (owns_set_below (owns_set_below HO3.out _ hz3 _) _ hz3 _) (by omega), (HB3.out.setCell (Nat.le_refl _) _).setCell (Nat.le_refl _) _⟩
  · have e : packT l = [] := by unfold packT; rw [if_neg ht]
    rw [e]
    generalize treeCode l = t at KT ht ⊢
    have h0 : (t == 0) = false := by simpa using ht
    have h1 : (t != 0) = true := by simpa using ht
    clear h ht e hT
    go_enter Tryz.func7, Tryz.ntmps7
    go_wp2_with fail
    refine (KT.out _ (below1 _ _)).mono ?_
    rintro e w1 ⟨rfl, hb⟩
    obtain ⟨hc, hf⟩ := bcell hb
    have hz := hb.size
    simp at hz
    go_wp2
    exact bodyPost_ret (v := .agg #[.int .i64 t, .slice none 0 0]) (by simp [results, Tryz.results7, go_sem, hc]) rfl
      ⟨none, 0, 0, rfl, World.ownsRow_nil _ _ _ _, (((below1 w _).trans (hb.mono (by simp))).setCell (by simp) _).setCell (by simp) _⟩

/-- a struct of a code and a row of texts is handed back -/
def StrsRes (w : World) (cd : Int) (ts : List ByteArray) (e : Ending) (w' : World) : Prop :=
  ∃ a n c, e = .returned (.agg #[.int .i64 cd, .slice a n c]) ∧ w'.ownsRow w.heap.size 9 1 (.slice a n c) n (ts.map Value.string) ∧ Below w.heap.size w w'
/-- the strings of StringsOf -/
def strsT (l : List It) : List ByteArray := if treeCode l = 0 then strsOf l else []

set_option maxRecDepth 100000 in
set_option maxHeartbeats 1600000 in
theorem implStringsOf_any (a : Option Addr) (n c : Nat) (l : List It) (w : World) (hT : Tabs w) (h : ItsAt w a n c l) :
    Calls Tryz.prog 11 #[.slice a n c] w (StrsRes w (treeCode l) (strsT l)) := by
  have KT := Lib.hid (fun (W : World) (hW : Below w.heap.size w W) => implTreeFault_any a n c l W (tabs_kept hT hW) (h.below hW))
  unfold StrsRes
  by_cases ht : treeCode l = 0
  · have e : strsT l = strsOf l := by unfold strsT; rw [if_pos ht]
    obtain ⟨h1, h2⟩ := goodTree ht
    have KP := Lib.hid (fun (b m : Nat) (W : World) (hb : BookAt (fun i => w.heap.size ≤ i) w W b m none []) => numbersOf_any (fun i => w.heap.size ≤ i) w b m none a n c l W hb h h.far (by rw [← h.len]; exact h1) (goodFew h2))
    unfold NumsRes at KP
    have KE := Lib.hid emptyBook_any
    unfold EmptyRes at KE
    rw [e, ht]
    rw [ht] at KT
    generalize numIts (strsOf l) l = NS at KP
    generalize strsOf l = L at KP ⊢
    clear h ht e h1 h2 hT
    go_enter Tryz.func11, Tryz.ntmps11
    go_wp2_with fail
    refine (KT.out _ (below1 _ _)).mono ?_
    rintro e w1 ⟨rfl, hb1⟩
    have HW1 := Lib.hid ((below1 w _).trans (hb1.mono (by simp)))
    have V1 := Lib.hid ((R2.new w 35 (.int .i64 0) (.slice none 0 0)).below hb1)
    have hz1 : w.heap.size + 1 ≤ w1.heap.size := by have := hb1.size; simpa using this
    clear hb1
    go_wp2_with fail
    refine (KE.out _).mono ?_
    rintro e w2 ⟨m, rfl, hm1, hm2, hmap, hb2⟩
    have HB2 := Lib.hid (below_then HW1.out hb2)
    have V2 := Lib.hid ((V1.out.below hb2).below (below1 w2 (.cells #[.slice none 0 0, .map (some m)] 48)))
    have hz2 : w1.heap.size ≤ w2.heap.size := hb2.size
    have K1 := Lib.hid (KP.out w2.heap.size m _ (BookAt.fresh2 (T := 48) HB2.out (by omega) hm2 hmap))
    clear hmap hb2
    go_wp2_with fail
    refine K1.out.mono ?_
    rintro e w3 ⟨_, _, _, g3, rfl, _, _, hbk3, hn3, hon3⟩
    have V3 := V2.out.only hon3 (fun hp => by rcases hp with e | e | e; omega; omega; cases e)
    have HB3 := Lib.hid (onlyBelow hbk3.on (fun i hi => hi))
    obtain ⟨a3, n3, c3, q3, ho3, hg3⟩ := hbk3.c0
    have hg3' : (Value.slice a3 n3 c3).ownBlock ≠ some w.heap.size := by
      rw [hg3]
      rcases hn3 with e | ⟨k, e, hk⟩
      · rw [e]; simp
      · rw [e]
        intro e2
        simp only [Option.some.injEq] at e2
        simp at hk
        omega
    have HO3 := Lib.hid ho3
    have HG3 := Lib.hid hg3'
    have y0 := V3.c0
    have y1 := V3.c1
    have yf0 := V3.f0
    have yf1 := V3.f1
    have ylt := V3.lt
    have z0 : ((w3.setCell ⟨w.heap.size, 0, none⟩ (.int .i64 0)).setCell ⟨w.heap.size, 1, none⟩ (.slice a3 n3 c3)).cell? ⟨w.heap.size, 0, none⟩ = some (.int .i64 0) := set_oth (by decide) (set_at y0)
    have z1 : ((w3.setCell ⟨w.heap.size, 0, none⟩ (.int .i64 0)).setCell ⟨w.heap.size, 1, none⟩ (.slice a3 n3 c3)).cell? ⟨w.heap.size, 1, none⟩ = some (.slice a3 n3 c3) := set_at (set_oth (by decide) y1)
    clear ho3 hbk3 hn3 hon3 V3 hg3 hg3'
    go_wp2
    exact bodyPost_ret (v := .agg #[.int .i64 0, .slice a3 n3 c3]) (by simp [results, Tryz.results11, go_sem, z0, z1]) rfl
      ⟨a3, n3, c3, rfl, row_kept (row_kept HO3.out (grown_set _ _ _) HG3.out) (grown_set _ _ _) HG3.out, (HB3.out.setCell (Nat.le_refl _) _).setCell (Nat.le_refl _) _⟩
  · have e : strsT l = [] := by unfold strsT; rw [if_neg ht]
    rw [e]
    generalize treeCode l = t at KT ht ⊢
    have h0 : (t == 0) = false := by simpa using ht
    have h1 : (t != 0) = true := by simpa using ht
    clear h ht e hT
    go_enter Tryz.func11, Tryz.ntmps11
    go_wp2_with fail
    refine (KT.out _ (below1 _ _)).mono ?_
    rintro e w1 ⟨rfl, hb⟩
    obtain ⟨hc, hf⟩ := bcell hb
    have hz := hb.size
    simp at hz
    go_wp2
    exact bodyPost_ret (v := .agg #[.int .i64 t, .slice none 0 0]) (by simp [results, Tryz.results11, go_sem, hc]) rfl
      ⟨none, 0, 0, rfl, World.ownsRow_nil _ _ _ _, (((below1 w _).trans (hb.mono (by simp))).setCell (by simp) _).setCell (by simp) _⟩

set_option maxRecDepth 100000 in
set_option maxHeartbeats 1600000 in
theorem specStringsOf_any (a : Option Addr) (n c : Nat) (l : List It) (w : World) (hs : SmallIts l) (h : ItsAt w a n c l) :
    Calls Tryz.prog 12 #[.slice a n c] w (StrsRes w (treeCode l) (strsT l)) := by
  have KT := Lib.hid (fun (W : World) (hW : Below w.heap.size w W) => specTreeFault_any a n c l W hs (h.below hW))
  unfold StrsRes
  by_cases ht : treeCode l = 0
  · have e : strsT l = strsOf l := by unfold strsT; rw [if_pos ht]
    obtain ⟨h1, h2⟩ := goodTree ht
    have KP := Lib.hid (fun (W : World) (hW : Below w.heap.size w W) => l6Strings_any a n c l W h1 (goodFew h2) (h.below hW))
    unfold GrownS at KP
    rw [e, ht]
    rw [ht] at KT
    generalize strsOf l = L at KP ⊢
    clear hs h ht e h1 h2
    go_enter Tryz.func12, Tryz.ntmps12
    go_wp2_with fail
    refine (KT.out _ (below1 _ _)).mono ?_
    rintro e w1 ⟨rfl, hb1⟩
    have HW1 := Lib.hid ((below1 w _).trans (hb1.mono (by simp)))
    have HB1 := Lib.hid hb1
    clear hb1
    go_wp2_with fail
    refine (KP.out _ HW1.out).mono ?_
    rintro e w2 ⟨a2, n2, c2, rfl, ho, hb2⟩
    have hb := below_then HB1.out hb2
    obtain ⟨hc, hf⟩ := bcell hb
    have HO := Lib.hid (owns_mono ho HB1.out.size)
    have hz := hb.size
    simp at hz
    have HB := Lib.hid hb
    clear ho hb2 hb
    go_wp2
    exact bodyPost_ret (v := .agg #[.int .i64 0, .slice a2 n2 c2]) (by simp [results, Tryz.results12, go_sem, hc]) rfl
      ⟨a2, n2, c2, rfl, owns_mono (owns_set_below (owns_set_below HO.out _ (by simp) _) _ (by simp) _) (by simp), (((below1 w _).trans (HB.out.mono (by simp))).setCell (by simp) _).setCell (by simp) _⟩
  · have e : strsT l = [] := by unfold strsT; rw [if_neg ht]
    rw [e]
    generalize treeCode l = t at KT ht ⊢
    have h0 : (t == 0) = false := by simpa using ht
    have h1 : (t != 0) = true := by simpa using ht
    clear hs h ht e
    go_enter Tryz.func12, Tryz.ntmps12
    go_wp2_with fail
    refine (KT.out _ (below1 _ _)).mono ?_
    rintro e w1 ⟨rfl, hb⟩
    obtain ⟨hc, hf⟩ := bcell hb
    have hz := hb.size
    simp at hz
    go_wp2
    exact bodyPost_ret (v := .agg #[.int .i64 t, .slice none 0 0]) (by simp [results, Tryz.results12, go_sem, hc]) rfl
      ⟨none, 0, 0, rfl, World.ownsRow_nil _ _ _ _, (((below1 w _).trans (hb.mono (by simp))).setCell (by simp) _).setCell (by simp) _⟩
end Go.Proofs.YtbfjhjkllaceaaaGreatDoor

/- The walk of the law on packed trees. -/
namespace Go.Proofs.YtbfjhjkllaceaaaGreatDoor
open Go.ChangeShapes Go.WideShapes Go.ChangeAt Go.RowKit
set_option linter.unusedVariables false

/-- what holds while the answers are compared -/
def Held8 (w0 W : World) (bp bu bs bw : Nat) (cp cu cs : Int) (vp vu vs vw : Value) : Prop :=
  Below w0.heap.size w0 W ∧ W.cell? ⟨bp, 0, none⟩ = some (.int .i64 cp) ∧ W.cell? ⟨bp, 1, none⟩ = some vp ∧ W.cell? ⟨bu, 0, none⟩ = some (.int .i64 cu) ∧ W.cell? ⟨bu, 1, none⟩ = some vu ∧
    W.cell? ⟨bs, 0, none⟩ = some (.int .i64 cs) ∧ W.cell? ⟨bs, 1, none⟩ = some vs ∧ W.cell? ⟨bw, 0, none⟩ = some (.int .i64 cs) ∧ W.cell? ⟨bw, 1, none⟩ = some vw
theorem held8_step {w0 W W' : World} {bp bu bs bw : Nat} {cp cu cs : Int} {vp vu vs vw : Value} (hb : Below W.heap.size W W')
    (h : Below w0.heap.size w0 W ∧ W.cell? ⟨bp, 0, none⟩ = some (.int .i64 cp) ∧ W.cell? ⟨bp, 1, none⟩ = some vp ∧ W.cell? ⟨bu, 0, none⟩ = some (.int .i64 cu) ∧ W.cell? ⟨bu, 1, none⟩ = some vu ∧
    W.cell? ⟨bs, 0, none⟩ = some (.int .i64 cs) ∧ W.cell? ⟨bs, 1, none⟩ = some vs ∧ W.cell? ⟨bw, 0, none⟩ = some (.int .i64 cs) ∧ W.cell? ⟨bw, 1, none⟩ = some vw) :
    Below w0.heap.size w0 W' ∧ W'.cell? ⟨bp, 0, none⟩ = some (.int .i64 cp) ∧ W'.cell? ⟨bp, 1, none⟩ = some vp ∧ W'.cell? ⟨bu, 0, none⟩ = some (.int .i64 cu) ∧ W'.cell? ⟨bu, 1, none⟩ = some vu ∧
    W'.cell? ⟨bs, 0, none⟩ = some (.int .i64 cs) ∧ W'.cell? ⟨bs, 1, none⟩ = some vs ∧ W'.cell? ⟨bw, 0, none⟩ = some (.int .i64 cs) ∧ W'.cell? ⟨bw, 1, none⟩ = some vw := by
  obtain ⟨h0, h1, h2, h3, h4, h5, h6, h7, h8⟩ := h
  exact ⟨below_then h0 hb, (hb.cell (cell_some_lt h1)).trans h1, (hb.cell (cell_some_lt h2)).trans h2, (hb.cell (cell_some_lt h3)).trans h3, (hb.cell (cell_some_lt h4)).trans h4,
    (hb.cell (cell_some_lt h5)).trans h5, (hb.cell (cell_some_lt h6)).trans h6, (hb.cell (cell_some_lt h7)).trans h7, (hb.cell (cell_some_lt h8)).trans h8⟩
theorem held_its {w0 W : World} {R : Prop} {a : Option Addr} {n c : Nat} {l : List It} (hi : ItsAt w0 a n c l) (h : Below w0.heap.size w0 W ∧ R) : ItsAt W a n c l := hi.below h.1
theorem held_rowB {w0 W : World} {R : Prop} {k : IntKind} {v : Value} {xs : List Int} (hr : Row w0 k v xs) (h : Below w0.heap.size w0 W ∧ R) : Row W k v xs := hr.below h.1
theorem rowS_cells {W : World} {a : Option Addr} {n c : Nat} {ts : List ByteArray} (h : RowS W (.slice a n c) ts) (hn : n = ts.length) : ∀ i, i < n → ∃ g o, a = some ⟨g, o, none⟩ ∧ g < W.heap.size ∧ W.cell? ⟨g, o + i, none⟩ = some (.string (ts.getD i ByteArray.empty)) := by
  intro i hi
  rcases h with ⟨hv, rfl⟩ | ⟨b, o, cap, hv, h1, h2, h3, h4⟩
  · simp at hn; omega
  · simp only [Value.slice.injEq] at hv
    obtain ⟨rfl, rfl, rfl⟩ := hv
    exact ⟨b, o, rfl, h3, h4 i hi⟩
theorem ba_eq {s t : ByteArray} (e : s.toList = t.toList) : s = t := by
  rw [ByteArray.toList_eq, ByteArray.toList_eq] at e
  have h := Array.toList_inj.1 e
  cases s
  cases t
  exact congrArg ByteArray.mk h
theorem nodup_ne {ts : List ByteArray} (h : ts.Nodup) {i j : Nat} (hi : i < ts.length) (hj : j < ts.length) (hij : i ≠ j) : ((ts.getD i ByteArray.empty).toList == (ts.getD j ByteArray.empty).toList) = false := by
  rw [beq_eq_false_iff_ne]
  intro e
  have e2 := ba_eq e
  rw [List.getD_eq_getElem?_getD, List.getElem?_eq_getElem hi, List.getD_eq_getElem?_getD, List.getElem?_eq_getElem hj] at e2
  exact hij ((List.getElem_inj h).1 e2)
theorem strsT_nodup (l : List It) : (strsT l).Nodup := by
  unfold strsT
  split
  · exact strsOf_nodup l
  · exact List.nodup_nil
theorem packT_byte (l : List It) : ∀ i, 0 ≤ (packT l).getD i 0 ∧ (packT l).getD i 0 ≤ 255 := by
  unfold packT
  split
  · exact getD_all (P := fun y => 0 ≤ y ∧ y ≤ 255) (l := packL l) (fun y hy => by have := packL_bytes l y hy; omega) (by decide)
  · intro i; simp
theorem un_zero {ys : List Int} (h : unCodeT ys = 0) : treeCode (unIts ys) = 0 ∧ packT (unIts ys) = ys := by
  unfold unCodeT at h
  by_cases h3 : 3000 < ys.length
  · rw [if_pos h3] at h; omega
  · rw [if_neg h3] at h
    by_cases hk : unOk ys
    · unfold unIts packT
      rw [if_neg h3, if_pos hk, if_pos hk.2.1]
      exact ⟨hk.2.1, hk.2.2⟩
    · rw [if_neg hk] at h; omega
theorem un_packed {l : List It} (h : treeCode l = 0) (hl : ¬ 3000 < (packT l).length) : unCodeT (packT l) = 0 ∧ unIts (packT l) = l := by
  have e : packT l = packL l := by unfold packT; rw [if_pos h]
  rw [e] at hl ⊢
  unfold unCodeT unIts
  rw [if_neg hl, if_neg hl, if_pos (un_ok h), if_pos (un_ok h), un_pack h]
  exact ⟨rfl, rfl⟩
theorem fldBy1 (w : World) (cd : Int) (a : Option Addr) (n c : Nat) : (Instr.field 27 (.agg #[.int .i64 cd, .slice a n c]) 1).run Tryz.prog w = .ok (.slice a n c) w := by kernel_rfl

set_option maxRecDepth 100000 in
set_option maxHeartbeats 12800000 in
theorem fnBins_walk0 (a : Option Addr) (n c : Nat) (xs : List Int) (w : World) (hC : CodeAt w a n c xs) (hT : Tabs w) (sa : Addr) (hs : Sent w sa) :
    Calls Tryz.prog 3 #[.slice a n c] w fun e w' => e = .returned (.bool true) ∧ Below w.heap.size w w' := by
  have hn := hC.size
  have hbig : decide (1048576 < n) = false := by simp; omega
  have HC := Lib.hid hC
  have HT := Lib.hid hT
  have HE := Lib.hid hs
  clear hC hT hs
  go_enter Tryz.func3, Tryz.ntmps3
  go_wp2_with fail
  refine (lwBig_any a n c (by omega) _).mono ?_
  rintro e w1 ⟨rfl, rfl⟩
  rw [hbig]
  go_wp2_with fail
  refine (drawPackTree_any a n c xs _ HC.out).mono ?_
  rintro e w2 ⟨x, m, q, l, rfl, hi, hl, hb⟩
  have HL := Lib.hid hl
  have I2 := Lib.hid hi
  have B2 := Lib.hid hb
  clear hi hl hb
  go_wp2_with fail
  refine (implPackTree_any x m q l _ (tabs_kept HT.out B2.out) I2.out).mono ?_
  rintro e w3 ⟨ap, np, cp, rfl, ho, hb⟩
  have E3 := Lib.hid hb
  have B3 := Lib.hid (below_then B2.out hb)
  have P3 := Lib.hid ho
  have HNP := Lib.hid (owns_length ho)
  have V3 := Lib.hid (Var2.new w3 27 (treeCode l) (.slice ap np cp))
  clear ho hb
  go_wp2_with fail
  refine (drawUnpackTree_any a n c xs _ (HC.out.below (B3.out.alloc B3.out.size _))).mono ?_
  rintro e w4 ⟨af, nf, cf, ys, rfl, hrow, hnf, hnf2, hby, hb⟩
  have E4 := Lib.hid hb
  have B4 := Lib.hid (below_then B3.out (below_then (below1 w3 _) hb))
  have R4 := Lib.hid hrow
  have HBY := Lib.hid hby
  have HNF := Lib.hid hnf
  clear hb hrow hby hnf
  have KU := implUnpackTree_any af nf cf ys _ sa (HE.out.kept B4.out) (tabs_kept HT.out B4.out) HNF.out (by omega) R4.out HBY.out
  rw [pu_code, pu_its] at KU
  have KU := Lib.hid KU
  go_wp2_with fail
  refine KU.out.mono ?_
  rintro e w5 ⟨au, nu, cu, rfl, hou, hb⟩
  have E5 := Lib.hid hb
  have B5 := Lib.hid (below_then B4.out hb)
  have U5 := Lib.hid hou.its
  have V5 := Lib.hid (Var2.new w5 31 (unCodeT ys) (.slice au nu cu))
  clear hou hb KU
  go_wp2_with fail
  refine (drawStringsOf_any a n c xs _ (HC.out.below (B5.out.alloc B5.out.size _))).mono ?_
  rintro e w6 ⟨x2, m2, q2, l2, rfl, hi2, hl2, hb⟩
  have E6 := Lib.hid hb
  have B6 := Lib.hid (below_then B5.out (below_then (below1 w5 _) hb))
  have J6 := Lib.hid hi2
  have HL2 := Lib.hid hl2
  clear hi2 hl2 hb
  go_wp2_with fail
  refine (implStringsOf_any x2 m2 q2 l2 _ (tabs_kept HT.out B6.out) J6.out).mono ?_
  rintro e w7 ⟨av, ns, cs, rfl, hos, hb⟩
  have E7 := Lib.hid hb
  have B7 := Lib.hid (below_then B6.out hb)
  have S7 := Lib.hid (RowS.of_owns hos)
  have HNS := Lib.hid (ownsS_length hos)
  have V7 := Lib.hid (Var2.new w7 35 (treeCode l2) (.slice av ns cs))
  clear hos hb
  go_wp2_with fail
  refine (specStringsOf_any x2 m2 q2 l2 _ HL2.out.small ((J6.out.below E7.out).below (below1 w7 _))).mono ?_
  rintro e w8 ⟨aw, nw, cw, rfl, how, hb⟩
  have E8 := Lib.hid hb
  have S8 := Lib.hid (RowS.of_owns how)
  obtain rfl : nw = ns := by rw [ownsS_length how, HNS.out]
  clear how hb
  have hnw : nw ≤ 9223372036854775807 := by
    rcases S8.out with ⟨hv, _⟩ | ⟨b, o, cap, hv, h1, h2, _⟩
    · simp only [Value.slice.injEq] at hv; omega
    · simp only [Value.slice.injEq] at hv; unfold maxLen at h2; omega
  go_wp2_with fail
  generalize hw9 : w8.alloc (.cells #[.int .i64 (treeCode l2), .slice aw nw cw] 35) = w9
  have T8 : Below w8.heap.size w8 w9 := by rw [← hw9]; exact below1 w8 _
  have T7 := below_then E8.out T8
  have T6 := below_then E7.out (below_then (below1 w7 _) T7)
  have T5 := below_then E6.out T6
  have T4 := below_then E5.out (below_then (below1 w5 _) T5)
  have T3 := below_then E4.out T4
  have T2 := below_then E3.out (below_then (below1 w3 _) T3)
  have B9 := Lib.hid (below_then B2.out T2)
  have I9 := Lib.hid (I2.out.below T2)
  have P9 := Lib.hid ((Row.of_owns P3.out).below (below_then (below1 w3 _) T3))
  have R9 := Lib.hid (R4.out.below T4)
  have U9 := Lib.hid (U5.out.below (below_then (below1 w5 _) T5))
  have J9 := Lib.hid (J6.out.below T6)
  have S9 := Lib.hid (rowS_cells (S7.out.below (below_then (below1 w7 _) T7)) HNS.out)
  have W9 := Lib.hid (rowS_cells (S8.out.below T8) HNS.out)
  have Vp := V3.out.below T3
  have Vu := V5.out.below T5
  have Vs := V7.out.below T7
  have Vw : Var2 w9 w8.heap.size (treeCode l2) (.slice aw nw cw) := by rw [← hw9]; exact Var2.new w8 _ _ _
  generalize w8.heap.size = bw at Vw ⊢
  generalize w7.heap.size = bs at Vs ⊢
  generalize w5.heap.size = bu at Vu ⊢
  generalize w3.heap.size = bp at Vp ⊢
  have HV := Lib.hid (And.intro Vp (And.intro Vu (And.intro Vs Vw)))
  have HT9 := Lib.hid (tabs_kept HT.out B9.out)
  have HE9 := Lib.hid (HE.out.kept B9.out)
  clear hw9 T8 T7 T6 T5 T4 T3 T2 E3 E4 E5 E6 E7 E8 B2 B3 B4 B5 B6 B7 I2 P3 R4 U5 J6 S7 S8 V3 V5 V7 Vp Vu Vs Vw HC HT HE
  have hS0 : Below w9.heap.size w9 w9.drew ∧ w9.drew.cell? ⟨bp, 0, none⟩ = some (.int .i64 (treeCode l)) ∧ w9.drew.cell? ⟨bp, 1, none⟩ = some (.slice ap np cp) ∧ w9.drew.cell? ⟨bu, 0, none⟩ = some (.int .i64 (unCodeT ys)) ∧ w9.drew.cell? ⟨bu, 1, none⟩ = some (.slice au nu cu) ∧
      w9.drew.cell? ⟨bs, 0, none⟩ = some (.int .i64 (treeCode l2)) ∧ w9.drew.cell? ⟨bs, 1, none⟩ = some (.slice av nw cs) ∧ w9.drew.cell? ⟨bw, 0, none⟩ = some (.int .i64 (treeCode l2)) ∧ w9.drew.cell? ⟨bw, 1, none⟩ = some (.slice aw nw cw) :=
    held8_step ((Below.refl _ _).drew) ⟨Below.refl _ _, HV.out.1.c0, HV.out.1.c1, HV.out.2.1.c0, HV.out.2.1.c1, HV.out.2.2.1.c0, HV.out.2.2.1.c1, HV.out.2.2.2.c0, HV.out.2.2.2.c1⟩
  go_cut [55] (fun v wx => v = .bool false ∧ Below w9.heap.size w9 wx ∧ wx.cell? ⟨bp, 0, none⟩ = some (.int .i64 (treeCode l)) ∧ wx.cell? ⟨bp, 1, none⟩ = some (.slice ap np cp) ∧ wx.cell? ⟨bu, 0, none⟩ = some (.int .i64 (unCodeT ys)) ∧ wx.cell? ⟨bu, 1, none⟩ = some (.slice au nu cu) ∧
      wx.cell? ⟨bs, 0, none⟩ = some (.int .i64 (treeCode l2)) ∧ wx.cell? ⟨bs, 1, none⟩ = some (.slice av nw cs) ∧ wx.cell? ⟨bw, 0, none⟩ = some (.int .i64 (treeCode l2)) ∧ wx.cell? ⟨bw, 1, none⟩ = some (.slice aw nw cw))
  case first =>
    have hq0 := HV.out.1.c0
    have hq1 := HV.out.1.c1
    have hq2 := HV.out.2.1.c0
    have hq3 := HV.out.2.1.c1
    have hq4 := HV.out.2.2.1.c0
    have hq5 := HV.out.2.2.1.c1
    have hq6 := HV.out.2.2.2.c0
    have hq7 := HV.out.2.2.2.c1
    first | (go_region_held3 (fun W => Below w9.heap.size w9 W ∧ W.cell? ⟨bp, 0, none⟩ = some (.int .i64 (treeCode l)) ∧ W.cell? ⟨bp, 1, none⟩ = some (.slice ap np cp) ∧ W.cell? ⟨bu, 0, none⟩ = some (.int .i64 (unCodeT ys)) ∧ W.cell? ⟨bu, 1, none⟩ = some (.slice au nu cu) ∧
      W.cell? ⟨bs, 0, none⟩ = some (.int .i64 (treeCode l2)) ∧ W.cell? ⟨bs, 1, none⟩ = some (.slice av nw cs) ∧ W.cell? ⟨bw, 0, none⟩ = some (.int .i64 (treeCode l2)) ∧ W.cell? ⟨bw, 1, none⟩ = some (.slice aw nw cw))
      (first | assumption | exact held8_step hbr (by assumption))
      (first
        | (go_at_call 14; (with_reducible refine (specPackTree_any x m q l _ HL.out.small ?_).mono ?_); exact held_its I9.out (by assumption); rintro e w' ⟨ar, nr, cr, rfl, hor, hbr⟩)
        | (go_at_call 13; (with_reducible refine (lwBytes_true (treeCode l) _ _ _ _ _ _ (packT l) _ ?_ ?_).mono ?_); exact held_rowB P9.out (by assumption); exact Row.of_owns hor; rintro e w' ⟨rfl, hbr⟩)
        | (go_at_call 16; (with_reducible refine (specUnpackTree_any af nf cf ys _ HNF.out (by omega) ?_ HBY.out).mono ?_); exact held_rowB R9.out (by assumption); rintro e w' ⟨ar2, nr2, cr2, rfl, hor2, hbr⟩)
        | (go_at_call 15; (with_reducible refine (lwTree_true (unCodeT ys) _ _ _ _ _ _ (unIts ys) _ ?_ ?_).mono ?_); exact held_its U9.out (by assumption); exact hor2.its; rintro e w' ⟨rfl, hbr⟩))) | fail
    all_goals (go_wp2_with fail; go_meet; refine ⟨by simp, ?_⟩; first | assumption | exact held8_step hbr (by assumption))
  case rest =>
    obtain ⟨rfl, hS⟩ := hcut
    have HSC := Lib.hid hS
    have hnl := HNS.out
    have hpn := strsT_nodup l2
    have NE := Lib.hid (fun (i j : Nat) (hi : i < nw) (hj : j < nw) (hij : i ≠ j) => nodup_ne hpn (by omega : i < (strsT l2).length) (by omega : j < (strsT l2).length) hij)
    clear hS hS0 HV hpn hnl
    obtain ⟨hB, p0, p1, u0, u1, s0, s1, z0, z1⟩ := HSC.out
    have SC := Lib.hid (fun i hi => (by obtain ⟨g, o, e, hg, hc⟩ := S9.out i hi; exact ⟨g, o, e, (hB.cell (p := ⟨g, o + i, none⟩) hg).trans hc⟩ : ∃ g o, av = some ⟨g, o, none⟩ ∧ wc.cell? ⟨g, o + i, none⟩ = some (.string ((strsT l2).getD i ByteArray.empty))))
    have WC := Lib.hid (fun i hi => (by obtain ⟨g, o, e, hg, hc⟩ := W9.out i hi; exact ⟨g, o, e, (hB.cell (p := ⟨g, o + i, none⟩) hg).trans hc⟩ : ∃ g o, aw = some ⟨g, o, none⟩ ∧ wc.cell? ⟨g, o + i, none⟩ = some (.string ((strsT l2).getD i ByteArray.empty))))
    generalize strsT l2 = ts at NE SC WC
    clear hB p0 p1 u0 u1 S9 W9
    go_wp2
    go_loopw [10] (fun iv wr => ∃ k : Nat, iv = .int .i64 k ∧ k ≤ nw ∧ ∃ nd, wr = wc.drewN nd) (fun iv _ => nw - (intOf iv).toNat)
    case atStart => exact ⟨0, rfl, Nat.zero_le _, 0, rfl⟩
    case round =>
      obtain ⟨k, rfl, hk, nd, rfl⟩ := hrel
      by_cases hlt : k < nw
      · obtain ⟨gs, os, rfl, hcs⟩ := SC.out k hlt
        obtain ⟨gw, ow, rfl, hcw⟩ := WC.out k hlt
        have NK := Lib.hid (fun j (hj : j < k) => NE.out j k (by omega) hlt (by omega))
        have k1 : (k : Int) < (nw : Int) := by omega
        generalize hte : ts.getD k ByteArray.empty = t at hcs hcw NK
        have q1 : (t.toList != t.toList) = false := by simp
        clear hte
        go_wp2_with fail
        go_quiet (fail)
        go_wp2
        clear q1 hcw z0 z1 s0
        go_loopw [11] (fun jv wr => ∃ j : Nat, jv = .int .i64 j ∧ j ≤ k ∧ ∃ nd, wr = wc.drewN nd) (fun jv _ => k - (intOf jv).toNat)
        case atStart => exact ⟨0, rfl, Nat.zero_le _, _, World.drewN_drewN _ _ _⟩
        case round =>
          obtain ⟨j, rfl, hj, nd2, rfl⟩ := hrel
          by_cases hjk : j < k
          · obtain ⟨g3, o3, e3, hcj⟩ := SC.out j (by omega)
            simp only [Option.some.injEq, Addr.mk.injEq, and_true] at e3
            obtain ⟨rfl, rfl⟩ := e3
            have q2 := NK.out j hjk
            generalize ts.getD j ByteArray.empty = t2 at hcj q2
            have j1 : (j : Int) < (k : Int) := by omega
            go_wp2_with fail
            go_quiet (fail)
            go_wp2
            go_roundw
            case rel => exact ⟨j + 1, by go_num, by omega, _, rfl⟩
            case measure => simp [intOf]; omega
          · obtain rfl : j = k := by omega
            go_wp2
            go_roundw
            case rel => exact ⟨j + 1, by go_num, by omega, _, rfl⟩
            case measure => simp [intOf]; omega
      · obtain rfl : k = nw := by omega
        have HSD := Lib.hid (held8_step (show Below wc.heap.size wc (wc.drewN nd) from below_drewN (Below.refl _ _) _) HSC.out)
        clear HSC SC WC s0 s1 z0 z1
        generalize wc.drewN nd = wd at HSD ⊢
        obtain ⟨hB, p0, p1, u0, u1, _⟩ := HSD.out
        have HB := Lib.hid hB
        have HP0 := Lib.hid p0
        have HP1 := Lib.hid p1
        clear hB HSD p0 p1
        go_upto_region 22 with fail
        go_cut [101] (fun v wx => v = .bool false ∧ Below wd.heap.size wd wx)
        case first =>
          by_cases hu : unCodeT ys = 0
          · obtain ⟨hu1, hu2⟩ := un_zero hu
            rw [hu] at u0
            have KP := implPackTree_any au nu cu (unIts ys) wd (tabs_kept HT9.out HB.out) (U9.out.below HB.out)
            rw [hu1, hu2] at KP
            have KP := Lib.hid KP
            have hf1 := fldBy1
            go_wp2_with fail
            refine KP.out.mono ?_
            rintro e wE ⟨a4, n4, c4, rfl, ho4, hb4⟩
            have R4 := Lib.hid (Row.of_owns ho4)
            have D4 := Lib.hid hb4
            clear ho4 hb4
            go_wp2_with fail
            refine (lwSame_true a4 af n4 nf c4 cf ys _ R4.out ((R9.out.below HB.out).below D4.out)).mono ?_
            rintro e wF ⟨rfl, nd5, rfl⟩
            go_wp2_with fail
            go_meet
            exact ⟨rfl, below_drewN D4.out _⟩
          · have hcb : (unCodeT ys == 0) = false := by rw [beq_eq_false_iff_ne]; exact hu
            go_wp2_with fail
            go_meet
            exact ⟨rfl, Below.refl _ _⟩
        case rest =>
          obtain ⟨rfl, hb⟩ := hcut
          have p0 := (hb.cell (cell_some_lt HP0.out)).trans HP0.out
          have p1 := (hb.cell (cell_some_lt HP1.out)).trans HP1.out
          have BC := Lib.hid (below_then HB.out hb)
          clear hb
          by_cases hp : treeCode l = 0
          · rw [hp] at p0
            by_cases hlen : 3000 < np
            · have hl1 : (3000 : Int) < (np : Int) := by omega
              go_wp2
              go_ret
              exact ⟨rfl, below_then B9.out BC.out⟩
            · have hnp := HNP.out
              obtain ⟨e1, e2⟩ := un_packed hp (by omega)
              have K := implUnpackTree_any ap np cp (packT l) wc sa (HE9.out.kept BC.out) (tabs_kept HT9.out BC.out) hnp (by omega) (P9.out.below BC.out) (packT_byte l)
              rw [pu_code, pu_its, e1, e2] at K
              have K := Lib.hid K
              have hl1 : ¬ (3000 : Int) < (np : Int) := by omega
              clear hnp e1 e2
              go_wp2_with fail
              refine K.out.mono ?_
              rintro e wE ⟨a5, n5, c5, rfl, ho5, hb5⟩
              have I5 := Lib.hid ho5.its
              have D5 := Lib.hid hb5
              clear ho5 hb5
              go_wp2_with fail
              refine (lwTree_true 0 a5 x n5 m c5 q l _ I5.out ((I9.out.below BC.out).below D5.out)).mono ?_
              rintro e wF ⟨rfl, hb6⟩
              have D6 := Lib.hid hb6
              clear hb6
              go_wp2
              go_ret
              exact ⟨rfl, below_then B9.out (below_then BC.out (below_then D5.out D6.out))⟩
          · have hcb : (treeCode l == 0) = false := by rw [beq_eq_false_iff_ne]; exact hp
            have hcb2 : (treeCode l != 0) = true := by rw [bne_iff_ne]; exact hp
            go_wp2
            go_ret
            exact ⟨rfl, below_then B9.out BC.out⟩
theorem fnBins_walk (a : Option Addr) (n c : Nat) (xs : List Int) (w : World) (h : InRow w a n c xs) (hT : Tabs w) (sa : Addr) (hs : Sent w sa) :
    Calls Tryz.prog 3 #[.slice a n c] w fun e w' => e = .returned (.bool true) ∧ Below w.heap.size w w' := by
  by_cases hs2 : n ≤ 1048576
  · exact fnBins_walk0 a n c xs w ⟨h.len, hs2, h.byte, h.row⟩ hT sa hs
  · have hbig : decide (1048576 < n) = true := by simp; omega
    have hm := h.max
    unfold maxLen at hm
    clear hs hT
    go_enter Tryz.func3, Tryz.ntmps3
    go_wp2_with fail
    refine (lwBig_any a n c (by omega) _).mono ?_
    rintro e w1 ⟨rfl, rfl⟩
    rw [hbig]
    go_wp2
    go_ret
    exact ⟨rfl, Below.refl _ _⟩
end Go.Proofs.YtbfjhjkllaceaaaGreatDoor
