/- Texts laid together, part 16. -/
import Derived.Test.YtbfjhjkllaceaaaGreatDoorGB15
import Derived.Deep.RegionWith
import Derived.Deep.RegionHeld3

/- The program's reader of frames: stop, number, count, text, named. -/
namespace Go.Proofs.YtbfjhjkllaceaaaGreatDoor
open Go.ChangeShapes Go.WideShapes Go.ChangeAt Go.RowKit
set_option linter.unusedVariables false

theorem BookAt.bel {w0 w : World} {b m : Nat} {g : Option Nat} {ts : List ByteArray} (h : BookAt (fun i => w0.heap.size ≤ i) w0 w b m g ts) : Below w0.heap.size w0 w := ⟨h.on.os, h.on.tape, h.on.output, h.on.size, fun i hi => h.on.block i hi (by omega)⟩
theorem BookAt.set2 {K : Nat → Prop} {w0 w : World} {b m : Nat} {g : Option Nat} {ts : List ByteArray} (h : BookAt K w0 w b m g ts) (v : Value) : BookAt K w0 (w.setCell ⟨b, 2, none⟩ v) b m g ts := by
  obtain ⟨a, n, c, h1, h2, h3⟩ := h.c0
  obtain ⟨D, h4, h5⟩ := h.map
  exact ⟨by simpa using h.lt, h.ge, h.mge, h.on.trans (Only.set w _ _ h.ge), ⟨a, n, c, set_oth (by decide) h1, row_kept h2 (grown_set _ _ _) (by rw [h3]; exact h.apart.1), h3⟩, set_oth (by decide) h.c1, ⟨D, h4.setCell h.apart.2.2 _, h5⟩, h.apart,
    by rw [World.frozen?_setCell]; exact h.f0, by rw [World.frozen?_setCell]; exact h.f1⟩

/-- a reader in block b: its book, and what is ahead, which lies in w0 -/
structure RpAt (w0 w : World) (b m : Nat) (g : Option Nat) (xs : List Int) (ts : List ByteArray) : Prop where
  book : BookAt (fun i => w0.heap.size ≤ i) w0 w b m g ts
  byte : ∀ i, 0 ≤ xs.getD i 0 ∧ xs.getD i 0 ≤ 255
  c2 : ∃ a n c, w.cell? ⟨b, 2, none⟩ = some (.slice a n c) ∧ n = xs.length ∧ Row w0 .u8 (.slice a n c) xs
  f2 : w.frozen? ⟨b, 2, none⟩ = false
theorem RpAt.only {P : Nat → Prop} {w0 w w' : World} {b m : Nat} {g : Option Nat} {xs : List Int} {ts : List ByteArray} (h : RpAt w0 w b m g xs ts) (ho : Only P w w') (hn : ∀ i, BookP b m g i → ¬ P i) (hP : ∀ i, P i → w0.heap.size ≤ i) : RpAt w0 w' b m g xs ts := by
  obtain ⟨a, n, c, h1, h2, h3⟩ := h.c2
  have hb := hn b (.inl rfl)
  exact ⟨h.book.only ho hn (fun i hi => .inr (hP i hi)), h.byte, ⟨a, n, c, (ho.cell (p := ⟨b, 2, none⟩) h.book.lt hb).trans h1, h2, h3⟩, (ho.frozen (p := ⟨b, 2, none⟩) h.book.lt hb).trans h.f2⟩
theorem RpAt.keep {w0 w w' : World} {b m : Nat} {g : Option Nat} {xs : List Int} {ts : List ByteArray} (h : RpAt w0 w b m g xs ts) (hb : Below w.heap.size w w') : RpAt w0 w' b m g xs ts :=
  h.only (Only.below (P := fun _ => False) hb) (fun _ _ h => h) (fun _ h => h.elim)
theorem RpAt.setXs {w0 w : World} {b m : Nat} {g : Option Nat} {xs : List Int} {ts : List ByteArray} (h : RpAt w0 w b m g xs ts) (ys : List Int) (a : Option Addr) (n c : Nat) (hby : ∀ i, 0 ≤ ys.getD i 0 ∧ ys.getD i 0 ≤ 255) (hn : n = ys.length) (hr : Row w0 .u8 (.slice a n c) ys) : RpAt w0 (w.setCell ⟨b, 2, none⟩ (.slice a n c)) b m g ys ts := by
  obtain ⟨a0, n0, c0, h1, h2, h3⟩ := h.c2
  exact ⟨h.book.set2 _, hby, ⟨a, n, c, set_at h1, hn, hr⟩, by rw [World.frozen?_setCell]; exact h.f2⟩
theorem byte_nil : ∀ i : Nat, 0 ≤ ([] : List Int).getD i 0 ∧ ([] : List Int).getD i 0 ≤ 255 := fun i => by simp
theorem RpAt.stopped {w0 w : World} {b m : Nat} {g : Option Nat} {xs : List Int} {ts : List ByteArray} (h : RpAt w0 w b m g xs ts) : RpAt w0 (w.setCell ⟨b, 2, none⟩ (.slice none 0 0)) b m g [] ts :=
  h.setXs [] none 0 0 byte_nil rfl (.inl ⟨rfl, rfl⟩)
theorem byte_drop {xs : List Int} (h : ∀ i, 0 ≤ xs.getD i 0 ∧ xs.getD i 0 ≤ 255) (k : Nat) : ∀ i, 0 ≤ (xs.drop k).getD i 0 ∧ (xs.drop k).getD i 0 ≤ 255 := getD_drop h k

theorem only_b {w w1 : World} {b : Nat} (h : Below w.heap.size w w1) (v : Value) (o : Obj) : Only (fun i => i = b) w ((w1.setCell ⟨b, 2, none⟩ v).alloc o).drew :=
  (((Only.below h).trans (Only.set (P := fun i => i = b) w1 ⟨b, 2, none⟩ v rfl)).trans (Only.below (below1 _ _))).trans (Only.below ((Below.refl _ _).drew))
theorem stop_any (b : Nat) (w : World) (v : Value) (hc : w.cell? ⟨b, 2, none⟩ = some v) (hf : w.frozen? ⟨b, 2, none⟩ = false) :
    Calls Tryz.prog 86 #[.pointer (some ⟨b, 0, none⟩)] w fun e w' => e = .returned (.tuple #[]) ∧ w' = w.setCell ⟨b, 2, none⟩ (.slice none 0 0) := by
  go_enter Tryz.func86, Tryz.ntmps86
  go_wp2
  go_end0
  exact ⟨rfl, rfl⟩

/-- a number was read -/
def NumP (w0 w : World) (b m : Nat) (g : Option Nat) (v : Int) (xs : List Int) (ts : List ByteArray) (e : Ending) (w' : World) : Prop :=
  e = .returned (.int .i64 v) ∧ RpAt w0 w' b m g xs ts ∧ Only (fun i => i = b) w w'

set_option maxRecDepth 100000 in
set_option maxHeartbeats 1600000 in
theorem pnumber_any (w0 : World) (sa : Addr) (hs : Sent w0 sa) (b m : Nat) (g : Option Nat) (xs : List Int) (ts : List ByteArray) (w : World) (h : RpAt w0 w b m g xs ts) :
    Calls Tryz.prog 85 #[.pointer (some ⟨b, 0, none⟩)] w (NumP w0 w b m g (vreadN xs) (pR xs) ts) := by
  obtain ⟨a, n, c, q2, hn, hrow⟩ := h.c2
  have K := Lib.hid (implReadVar_any a n c xs w sa (hs.kept h.book.bel) hn (hrow.below h.book.bel) h.byte)
  unfold Res3 at K
  unfold NumP
  have H := Lib.hid h
  have hlt := h.book.lt
  have f2 := h.f2
  cases hok : vreadOk xs
  · have e1 : vcode xs = 5 := by unfold vcode; rw [hok]; rfl
    have e2 : vreadN xs = 0 := (read_none hok).1
    have e3 : pR xs = [] := by unfold pR; rw [hok]; rfl
    rw [e2, e3]
    rw [e1, e2] at K
    generalize vreadK xs = k at K
    clear e1 e2 e3 h hn hrow hok
    go_enter Tryz.func85, Tryz.ntmps85
    go_wp2_with fail
    refine K.out.mono ?_
    rintro e w1 ⟨rfl, hb1⟩
    have H1 := Lib.hid (H.out.keep (hb1.alloc hb1.size (.cells #[.int .i64 5, .int .i64 0, .int .i64 k] 123)))
    have HB1 := Lib.hid (hb1.alloc hb1.size (.cells #[.int .i64 5, .int .i64 0, .int .i64 k] 123))
    have g2 := (HB1.out.cell (p := ⟨b, 2, none⟩) hlt).trans q2
    have KS := Lib.hid (stop_any b _ _ g2 H1.out.f2)
    clear hb1 q2 f2 g2
    go_wp2_with fail
    refine KS.out.mono ?_
    rintro e w2 ⟨rfl, rfl⟩
    go_wp2
    go_ret
    exact ⟨rfl, H1.out.stopped, (Only.below HB1.out).trans (Only.set _ _ _ rfl)⟩
  · have e1 : vcode xs = 0 := by unfold vcode; rw [hok]; rfl
    have e3 : pR xs = xs.drop (vreadK xs) := by unfold pR; rw [hok]; rfl
    rw [e3]
    rw [e1] at K
    have hkl := (vreadK_le xs).1
    have hk1 : vreadK xs ≤ n := by omega
    have HDR := Lib.hid (getD_drop h.byte (vreadK xs))
    have HLD : Hid (n - vreadK xs = (xs.drop (vreadK xs)).length) := Lib.hid (by rw [List.length_drop, hn])
    obtain ⟨rb, ro, rfl⟩ := row_some hrow hok
    have hcap : n ≤ c ∧ c ≤ maxLen ∧ rb < w0.heap.size := by
      rcases hrow with ⟨hv, _⟩ | ⟨b', o', cap, hv, g1, g2, g3, g4⟩
      · cases hv
      · simp only [Value.slice.injEq, Option.some.injEq, Addr.mk.injEq] at hv
        obtain ⟨⟨rfl, rfl, _⟩, hn', rfl⟩ := hv
        exact ⟨by omega, g2, g3⟩
    obtain ⟨hnc, hcm, hrb⟩ := hcap
    have HPC : Hid (Row w0 .u8 (.slice (some ⟨rb, ro + vreadK xs, none⟩) (n - vreadK xs) (c - vreadK xs)) (xs.drop (vreadK xs))) := Lib.hid (by
      have := hrow.piece (vreadK xs) (n - vreadK xs) (by omega)
      rwa [List.take_of_length_le (by rw [List.length_drop]; omega)] at this)
    have HPE : Hid (c = vreadK xs → Row w0 .u8 (.slice (some ⟨rb, ro, none⟩) 0 0) (xs.drop (vreadK xs))) := Lib.hid (fun hc => by
      have hz : xs.drop (vreadK xs) = [] := List.drop_eq_nil_of_le (by omega)
      rw [hz]
      exact Row.empty (by decide) hrb)
    have hcm2 := hcm
    unfold maxLen at hcm2
    generalize vreadN xs = v at K ⊢
    generalize vreadK xs = k at *
    generalize xs.drop k = ys at *
    clear e1 e3 h hn hrow hkl hok
    by_cases hkc : k < c
    · go_enter Tryz.func85, Tryz.ntmps85
      go_wp2_with fail
      refine K.out.mono ?_
      rintro e w1 ⟨rfl, hb1⟩
      have H1 := Lib.hid (H.out.keep hb1)
      have HB1 := Lib.hid hb1
      have hlt1 : b < w1.heap.size := Nat.lt_of_lt_of_le hlt hb1.size
      have g2 := (hb1.cell (p := ⟨b, 2, none⟩) hlt).trans q2
      have gf := (hb1.frozen (p := ⟨b, 2, none⟩) hlt).trans f2
      clear hb1 q2 f2
      go_wp2
      go_region
      all_goals
        go_wp2
        go_ret
        exact ⟨rfl, ((H1.out.setXs ys _ _ _ HDR.out HLD.out HPC.out).keep (below1 _ _)).keep ((Below.refl _ _).drew), only_b HB1.out _ _⟩
    · obtain rfl : c = k := by omega
      obtain rfl : n = c := by omega
      have HPE2 := Lib.hid (HPE.out rfl)
      have hn0 : n - n = 0 := by omega
      rw [hn0] at HLD
      go_enter Tryz.func85, Tryz.ntmps85
      go_wp2_with fail
      refine K.out.mono ?_
      rintro e w1 ⟨rfl, hb1⟩
      have H1 := Lib.hid (H.out.keep hb1)
      have HB1 := Lib.hid hb1
      have hlt1 : b < w1.heap.size := Nat.lt_of_lt_of_le hlt hb1.size
      have g2 := (hb1.cell (p := ⟨b, 2, none⟩) hlt).trans q2
      have gf := (hb1.frozen (p := ⟨b, 2, none⟩) hlt).trans f2
      clear hb1 q2 f2
      go_wp2
      go_region
      all_goals
        go_wp2
        go_ret
        exact ⟨rfl, ((H1.out.setXs ys _ _ _ HDR.out HLD.out HPE2.out).keep (below1 _ _)).keep ((Below.refl _ _).drew), only_b HB1.out _ _⟩

/-- a text was read -/
def TxtP (w0 w : World) (b m : Nat) (g : Option Nat) (v : ByteArray) (xs : List Int) (ts : List ByteArray) (e : Ending) (w' : World) : Prop :=
  e = .returned (.string v) ∧ RpAt w0 w' b m g xs ts ∧ Only (fun i => i = b) w w'

set_option maxRecDepth 100000 in
set_option maxHeartbeats 1600000 in
theorem ptext_any (w0 : World) (sa : Addr) (hs : Sent w0 sa) (hT : Tabs w0) (b m : Nat) (g : Option Nat) (xs : List Int) (ts : List ByteArray) (w : World) (h : RpAt w0 w b m g xs ts) :
    Calls Tryz.prog 62 #[.pointer (some ⟨b, 0, none⟩)] w (TxtP w0 w b m g (stxt xs) (tR xs) ts) := by
  obtain ⟨a, n, c, q2, hn, hrow⟩ := h.c2
  have K := Lib.hid (implReadString_any a n c xs w sa (hs.kept h.book.bel) (tabs_kept hT h.book.bel) hn (hrow.below h.book.bel) h.byte)
  unfold ResS at K
  unfold TxtP
  have H := Lib.hid h
  have hlt := h.book.lt
  have f2 := h.f2
  cases hok : sOk xs
  · have e1 : scode xs = 5 := by unfold scode; rw [hok]; rfl
    have e2 : stxt xs = ⟨#[]⟩ := (s_none hok).1
    have e3 : tR xs = [] := by unfold tR; rw [hok]; rfl
    rw [e2, e3]
    rw [e1, e2] at K
    generalize ssz xs = k at K
    clear e1 e2 e3 h hn hrow hok
    go_enter Tryz.func62, Tryz.ntmps62
    go_wp2_with fail
    refine K.out.mono ?_
    rintro e w1 ⟨rfl, hb1⟩
    have H1 := Lib.hid (H.out.keep (hb1.alloc hb1.size (.cells #[.int .i64 5, .string ⟨#[]⟩, .int .i64 k] 114)))
    have HB1 := Lib.hid (hb1.alloc hb1.size (.cells #[.int .i64 5, .string ⟨#[]⟩, .int .i64 k] 114))
    have g2 := (HB1.out.cell (p := ⟨b, 2, none⟩) hlt).trans q2
    have KS := Lib.hid (stop_any b _ _ g2 H1.out.f2)
    clear hb1 q2 f2 g2
    go_wp2_with fail
    refine KS.out.mono ?_
    rintro e w2 ⟨rfl, rfl⟩
    go_wp2
    go_ret
    exact ⟨rfl, H1.out.stopped, (Only.below HB1.out).trans (Only.set _ _ _ rfl)⟩
  · have e1 : scode xs = 0 := by unfold scode; rw [hok]; rfl
    have e3 : tR xs = xs.drop (ssz xs).toNat := by unfold tR; rw [hok]; rfl
    rw [e3]
    rw [e1] at K
    have hvo : vreadOk xs = true := by
      unfold sOk at hok
      rw [Bool.and_eq_true] at hok
      exact hok.1
    have hs1 := ssz_pos hok
    have hs2 := (ssz_bd (xs := xs) (by omega)).2.1
    obtain ⟨k, hk⟩ : ∃ k : Nat, ssz xs = k := ⟨(ssz xs).toNat, by omega⟩
    rw [hk] at K hs1 hs2 ⊢
    rw [Int.toNat_natCast]
    have hk1 : k ≤ n := by omega
    have HDR := Lib.hid (getD_drop h.byte (k))
    have HLD : Hid (n - k = (xs.drop (k)).length) := Lib.hid (by rw [List.length_drop, hn])
    obtain ⟨rb, ro, rfl⟩ := row_some hrow hvo
    have hcap : n ≤ c ∧ c ≤ maxLen ∧ rb < w0.heap.size := by
      rcases hrow with ⟨hv, _⟩ | ⟨b', o', cap, hv, g1, g2, g3, g4⟩
      · cases hv
      · simp only [Value.slice.injEq, Option.some.injEq, Addr.mk.injEq] at hv
        obtain ⟨⟨rfl, rfl, _⟩, hn', rfl⟩ := hv
        exact ⟨by omega, g2, g3⟩
    obtain ⟨hnc, hcm, hrb⟩ := hcap
    have HPC : Hid (Row w0 .u8 (.slice (some ⟨rb, ro + k, none⟩) (n - k) (c - k)) (xs.drop (k))) := Lib.hid (by
      have := hrow.piece (k) (n - k) (by omega)
      rwa [List.take_of_length_le (by rw [List.length_drop]; omega)] at this)
    have HPE : Hid (c = k → Row w0 .u8 (.slice (some ⟨rb, ro, none⟩) 0 0) (xs.drop (k))) := Lib.hid (fun hc => by
      have hz : xs.drop (k) = [] := List.drop_eq_nil_of_le (by omega)
      rw [hz]
      exact Row.empty (by decide) hrb)
    have hcm2 := hcm
    unfold maxLen at hcm2
    generalize stxt xs = v at K ⊢
    generalize xs.drop k = ys at *
    clear e1 e3 h hn hrow hok hvo hk hs1 hs2
    by_cases hkc : k < c
    · go_enter Tryz.func62, Tryz.ntmps62
      go_wp2_with fail
      refine K.out.mono ?_
      rintro e w1 ⟨rfl, hb1⟩
      have H1 := Lib.hid (H.out.keep hb1)
      have HB1 := Lib.hid hb1
      have hlt1 : b < w1.heap.size := Nat.lt_of_lt_of_le hlt hb1.size
      have g2 := (hb1.cell (p := ⟨b, 2, none⟩) hlt).trans q2
      have gf := (hb1.frozen (p := ⟨b, 2, none⟩) hlt).trans f2
      clear hb1 q2 f2
      go_wp2
      go_region
      all_goals
        go_wp2
        go_ret
        exact ⟨rfl, ((H1.out.setXs ys _ _ _ HDR.out HLD.out HPC.out).keep (below1 _ _)).keep ((Below.refl _ _).drew), only_b HB1.out _ _⟩
    · obtain rfl : c = k := by omega
      obtain rfl : n = c := by omega
      have HPE2 := Lib.hid (HPE.out rfl)
      have hn0 : n - n = 0 := by omega
      rw [hn0] at HLD
      go_enter Tryz.func62, Tryz.ntmps62
      go_wp2_with fail
      refine K.out.mono ?_
      rintro e w1 ⟨rfl, hb1⟩
      have H1 := Lib.hid (H.out.keep hb1)
      have HB1 := Lib.hid hb1
      have hlt1 : b < w1.heap.size := Nat.lt_of_lt_of_le hlt hb1.size
      have g2 := (hb1.cell (p := ⟨b, 2, none⟩) hlt).trans q2
      have gf := (hb1.frozen (p := ⟨b, 2, none⟩) hlt).trans f2
      clear hb1 q2 f2
      go_wp2
      go_region
      all_goals
        go_wp2
        go_ret
        exact ⟨rfl, ((H1.out.setXs ys _ _ _ HDR.out HLD.out HPE2.out).keep (below1 _ _)).keep ((Below.refl _ _).drew), only_b HB1.out _ _⟩

set_option maxRecDepth 100000 in
set_option maxHeartbeats 1600000 in
theorem pcount_any (w0 : World) (sa : Addr) (hs : Sent w0 sa) (b m : Nat) (g : Option Nat) (xs : List Int) (ts : List ByteArray) (w : World) (h : RpAt w0 w b m g xs ts) :
    Calls Tryz.prog 60 #[.pointer (some ⟨b, 0, none⟩)] w (NumP w0 w b m g (cN xs) (cR xs) ts) := by
  have K := Lib.hid (pnumber_any w0 sa hs b m g xs ts w h)
  unfold NumP at K ⊢
  have hbd := vreadN_bd xs
  clear h
  by_cases hc : ((pR xs).length : Int) < vreadN xs
  · have e1 : cN xs = 0 := by unfold cN; rw [if_pos hc]
    have e2 : cR xs = [] := by unfold cR; rw [if_pos hc]
    rw [e1, e2]
    generalize vreadN xs = v at *
    generalize pR xs = ys at *
    clear e1 e2
    go_enter Tryz.func60, Tryz.ntmps60
    go_wp2_with fail
    refine K.out.mono ?_
    rintro e w1 ⟨rfl, h1, ho1⟩
    obtain ⟨a, n, c, q2, hn, hrow⟩ := h1.c2
    have H1 := Lib.hid h1
    have HO1 := Lib.hid ho1
    have hnv : (n : Int) < v := by omega
    have KS := Lib.hid (stop_any b _ _ q2 h1.f2)
    clear h1 ho1 hrow hn hc
    go_wp2_with fail
    refine KS.out.mono ?_
    rintro e w2 ⟨rfl, rfl⟩
    go_wp2
    go_ret
    exact ⟨rfl, H1.out.stopped, HO1.out.trans (Only.set _ _ _ rfl)⟩
  · have e1 : cN xs = vreadN xs := by unfold cN; rw [if_neg hc]
    have e2 : cR xs = pR xs := by unfold cR; rw [if_neg hc]
    rw [e1, e2]
    generalize vreadN xs = v at *
    generalize pR xs = ys at *
    clear e1 e2
    go_enter Tryz.func60, Tryz.ntmps60
    go_wp2_with fail
    refine K.out.mono ?_
    rintro e w1 ⟨rfl, h1, ho1⟩
    obtain ⟨a, n, c, q2, hn, hrow⟩ := h1.c2
    have H1 := Lib.hid h1
    have HO1 := Lib.hid ho1
    have hnv : ¬ (n : Int) < v := by omega
    have hnv2 : v ≤ (n : Int) := by omega
    clear h1 ho1 hrow hn hc
    go_wp2
    go_ret
    exact ⟨rfl, H1.out, HO1.out⟩

set_option maxRecDepth 100000 in
set_option maxHeartbeats 1600000 in
theorem pnamed_any (w0 : World) (sa : Addr) (hs : Sent w0 sa) (b m : Nat) (g : Option Nat) (xs : List Int) (ts : List ByteArray) (w : World) (h : RpAt w0 w b m g xs ts) :
    Calls Tryz.prog 88 #[.pointer (some ⟨b, 0, none⟩)] w (TxtP w0 w b m g (mN ts xs) (mR ts xs) ts) := by
  have K := Lib.hid (pnumber_any w0 sa hs b m g xs ts w h)
  unfold NumP at K
  unfold TxtP
  have hbd := vreadN_bd xs
  clear h
  by_cases hc : (ts.length : Int) ≤ vreadN xs
  · have e1 : mN ts xs = ByteArray.empty := by unfold mN; rw [if_pos hc]
    have e2 : mR ts xs = [] := by unfold mR; rw [if_pos hc]
    rw [e1, e2]
    generalize vreadN xs = v at *
    generalize pR xs = ys at *
    clear e1 e2
    go_enter Tryz.func88, Tryz.ntmps88
    go_wp2_with fail
    refine K.out.mono ?_
    rintro e w1 ⟨rfl, h1, ho1⟩
    obtain ⟨a, n, c, q2, hn, hrow⟩ := h1.c2
    obtain ⟨aL, nL, cL, q0, hown, hgl⟩ := h1.book.c0
    have hnv : (nL : Int) ≤ v := by have := ownsS_length hown; omega
    have H1 := Lib.hid h1
    have HO1 := Lib.hid ho1
    have KS := Lib.hid (stop_any b _ _ q2 h1.f2)
    clear h1 ho1 hrow hn hc hown hgl
    go_wp2_with fail
    refine KS.out.mono ?_
    rintro e w2 ⟨rfl, rfl⟩
    go_wp2
    go_ret
    exact ⟨rfl, H1.out.stopped, HO1.out.trans (Only.set _ _ _ rfl)⟩
  · have e1 : mN ts xs = ts.getD (vreadN xs).toNat ByteArray.empty := by unfold mN; rw [if_neg hc]
    have e2 : mR ts xs = pR xs := by unfold mR; rw [if_neg hc]
    rw [e1, e2]
    obtain ⟨v, hv⟩ : ∃ v : Nat, vreadN xs = v := ⟨(vreadN xs).toNat, by omega⟩
    rw [hv] at K hc hbd ⊢
    rw [Int.toNat_natCast]
    generalize pR xs = ys at *
    generalize hsx : ts.getD v ByteArray.empty = s
    have HSX := Lib.hid hsx
    clear e1 e2 hv hsx
    go_enter Tryz.func88, Tryz.ntmps88
    go_wp2_with fail
    refine K.out.mono ?_
    rintro e w1 ⟨rfl, h1, ho1⟩
    obtain ⟨aL, nL, cL, q0, hown, hgl⟩ := h1.book.c0
    have hnL := ownsS_length hown
    obtain ⟨bL, oL, capL, hvL, g1, g2, g3, g4⟩ := (RowS.of_owns hown).resolve_left (fun e => by
      have e2 := e.2
      rw [e2] at hc
      simp at hc
      omega)
    simp only [Value.slice.injEq] at hvL
    obtain ⟨rfl, hv2, rfl⟩ := hvL
    have hvn : v < nL := by omega
    have d1 := g4 v (by omega)
    rw [HSX.out] at d1
    have hnv : (v : Int) < (nL : Int) := by omega
    have H1 := Lib.hid h1
    have HO1 := Lib.hid ho1
    clear h1 ho1 hc hown hgl g4 hv2 hnL
    go_wp2
    go_ret
    exact ⟨rfl, H1.out, HO1.out⟩
end Go.Proofs.YtbfjhjkllaceaaaGreatDoor

/- The program's reader of frames: attrs, item. -/
namespace Go.Proofs.YtbfjhjkllaceaaaGreatDoor
open Go.ChangeShapes Go.WideShapes Go.ChangeAt Go.RowKit
set_option linter.unusedVariables false

theorem BookAt.inside {K : Nat → Prop} {w0 w : World} {b m : Nat} {g : Option Nat} {ts : List ByteArray} (h : BookAt K w0 w b m g ts) {i : Nat} (hi : BookP b m g i) : i < w.heap.size := by
  rcases hi with rfl | rfl | e
  · exact h.lt
  · obtain ⟨D, hm, _⟩ := h.map
    exact hm.lt
  · obtain ⟨a, n, c, h1, h2, h3⟩ := h.c0
    exact (h2.lt i (by rw [h3, ← e])).2
/-- a reader on its way from wE -/
structure PSt (w0 wE w : World) (b m : Nat) (g : Option Nat) (xs : List Int) (ts : List ByteArray) : Prop where
  rp : RpAt w0 w b m g xs ts
  on : Only (fun i => i = b) wE w
theorem PSt.below {w0 wE w w' : World} {b m : Nat} {g : Option Nat} {xs : List Int} {ts : List ByteArray} (h : PSt w0 wE w b m g xs ts) (hb : Below w.heap.size w w') : PSt w0 wE w' b m g xs ts :=
  ⟨h.rp.keep hb, h.on.trans (Only.below hb)⟩
theorem PSt.far {w0 wE w w' : World} {b m : Nat} {g : Option Nat} {xs xE : List Int} {ts : List ByteArray} {row : Option Nat} (h : PSt w0 wE w b m g xs ts) (hE : RpAt w0 wE b m g xE ts) (hg : w.grownBy w' row) (hp : ∀ k, row = some k → wE.heap.size ≤ k) : PSt w0 wE w' b m g xs ts :=
  ⟨h.rp.only (P := fun i => some i = row) (Only.grownP hg fun k hk => hk.symm) (fun i hi e => by have := hE.book.inside hi; have := hp i e.symm; omega) (fun i e => Nat.le_trans hE.book.bel.size (hp i e.symm)), h.on.far hg hp⟩
theorem PSt.set {w0 wE w : World} {b m : Nat} {g : Option Nat} {xs xE : List Int} {ts : List ByteArray} (h : PSt w0 wE w b m g xs ts) (hE : RpAt w0 wE b m g xE ts) (p : Addr) (v : Value) (hp : wE.heap.size ≤ p.block) : PSt w0 wE (w.setCell p v) b m g xs ts :=
  h.far hE (grown_set w p v) (fun k hk => by cases hk; exact hp)
theorem PSt.fill {w0 wE w : World} {b m : Nat} {g : Option Nat} {xs xE : List Int} {ts : List ByteArray} (h : PSt w0 wE w b m g xs ts) (hE : RpAt w0 wE b m g xE ts) (x : Nat) (hx : wE.heap.size ≤ x) (u0 u1 u2 u3 u4 : Value) : PSt w0 wE (((((w.setCell ⟨x, 0, none⟩ u0).setCell ⟨x, 1, none⟩ u1).setCell ⟨x, 2, none⟩ u2).setCell ⟨x, 3, none⟩ u3).setCell ⟨x, 4, none⟩ u4) b m g xs ts :=
  ((((h.set hE _ _ hx).set hE _ _ hx).set hE _ _ hx).set hE _ _ hx).set hE _ _ hx
theorem onlyGrown {w w' : World} {b : Nat} (h : Only (fun i => i = b) w w') : w.grownBy w' (some b) := ⟨h.os, h.tape, h.output, h.size, fun i hi hn => h.block i hi (fun e => hn (by rw [e]))⟩

/-- attributes were read -/
def AtsP (w0 w : World) (b m : Nat) (g : Option Nat) (es : List At) (xs : List Int) (ts : List ByteArray) (e : Ending) (w' : World) : Prop :=
  ∃ a n c, e = .returned (.slice a n c) ∧ w'.ownsRow w.heap.size 73 2 (.slice a n c) n (flatA es) ∧ n = es.length ∧ (a = none → c = 0) ∧ PSt w0 w w' b m g xs ts

set_option maxRecDepth 100000 in
set_option maxHeartbeats 3200000 in
theorem pattrs_any (w0 : World) (sa : Addr) (hs : Sent w0 sa) (b m : Nat) (g : Option Nat) (xs : List Int) (ts : List ByteArray) (w : World) (h : RpAt w0 w b m g xs ts) (hl : xs.length ≤ 3000) :
    Calls Tryz.prog 89 #[.pointer (some ⟨b, 0, none⟩)] w (AtsP w0 w b m g (aA ts xs).2 (aA ts xs).1 ts) := by
  obtain ⟨i0, hi, hz0, hi1, hz2⟩ := info_parts attrInfo
  have KC := Lib.hid (pcount_any w0 sa hs b m g xs ts w h)
  unfold NumP at KC
  have KT : Hid (∀ (q : List Int) (W : World) (hh : PSt w0 w W b m g q ts), Calls Tryz.prog 88 #[.pointer (some ⟨b, 0, none⟩)] W fun e w' => e = .returned (.string (mN ts q)) ∧ PSt w0 w w' b m g (mR ts q) ts ∧ W.grownBy w' (some b)) :=
    Lib.hid (fun q W hh => (pnamed_any w0 sa hs b m g q ts W hh.rp).mono fun e w' ⟨a, bb, c⟩ => ⟨a, ⟨bb, hh.on.trans c⟩, onlyGrown c⟩)
  have hbd := cN_bd xs
  have HE := Lib.hid h
  have hlt := h.book.lt
  obtain ⟨N, hN⟩ : ∃ N : Nat, cN xs = N := ⟨(cN xs).toNat, by omega⟩
  unfold AtsP aA
  rw [hN] at KC hbd ⊢
  rw [Int.toNat_natCast]
  generalize hF : aF ts N (cR xs) [] = F
  have HF := Lib.hid hF
  have hN3 : N ≤ 3000 := by omega
  generalize cR xs = x1 at *
  clear h hbd hN hF
  go_enter Tryz.func89, Tryz.ntmps89
  go_wp2_with fail
  refine KC.out.mono ?_
  rintro e w1 ⟨rfl, h1, ho1⟩
  have S1 : Hid (PSt w0 w w1 b m g x1 ts) := Lib.hid ⟨h1, ho1⟩
  clear h1 ho1
  go_wp2
  go_loopw [3, 6] (fun v i wr => ∃ (k : Nat) (q : List Int) (es : List At) (a : Option Addr) (c : Nat), i = .int .i64 k ∧ k ≤ N ∧ v = .slice a k c ∧ Hid (aF ts (N - k) q es = F) ∧ Hid (es.length = k) ∧ PSt w0 w wr b m g q ts ∧ wr.ownsRow w.heap.size 73 2 (.slice a k c) k (flatA es) ∧ (a = none → c = 0)) (fun _ i _ => N - (intOf i).toNat)
  case atStart => exact ⟨0, x1, [], none, 0, rfl, Nat.zero_le _, rfl, HF, Lib.hid rfl, S1.out, World.ownsRow_nil _ _ _ _, fun _ => rfl⟩
  case round =>
    obtain ⟨k, q, es, a, c, rfl, hk, rfl, HQ, HL, hS, hown, hnil⟩ := hrel
    have SS := Lib.hid hS
    have OO := Lib.hid hown
    have NIL := Lib.hid hnil
    clear hS hown hnil
    by_cases hkn : k < N
    · have hq := HQ.out
      rw [show N - k = (N - (k + 1)) + 1 by omega] at hq
      unfold aF at hq
      have HQ2 := Lib.hid hq
      have M1 := Lib.hid (KT.out q)
      have M2 := Lib.hid (KT.out (mR ts q))
      generalize mN ts q = n1 at *
      generalize mN ts (mR ts q) = v1 at *
      generalize mR ts (mR ts q) = qq at *
      generalize mR ts q = q1 at *
      have k7 : (k : Int) < (N : Int) := by omega
      clear hq
      go_wp2_with fail
      refine (M1.out _ SS.out).mono ?_
      rintro e w6 ⟨rfl, s6, g6⟩
      have S6 := Lib.hid s6
      have O6 := Lib.hid (row_kept OO.out g6 (fun e => by have := (OO.out.lt b e).1; omega))
      clear s6 g6
      go_wp2_with fail
      refine (M2.out _ S6.out).mono ?_
      rintro e w7 ⟨rfl, s7, g7⟩
      have S7 := Lib.hid s7
      have O7 := Lib.hid (row_kept O6.out g7 (fun e => by have := (O6.out.lt b e).1; omega))
      clear s7 g7
      go_wp2_with (at_builtin; refine wpList_append_own_at _ rfl _ _ 66 rfl w.heap.size 73 i0 (.agg #[.string ByteArray.empty, .string ByteArray.empty]) 2 32 Tryz.underlying66 hi hz0 hi1 hz2 rfl (by decide) _ k _ rfl (O7.out.alloc _) ⟨w7.heap.size, 0, none⟩ 1 1 [.string n1, .string v1] rfl rfl ?c1 ?c2 ?c3 ?c4 ?c5 ?_)
      case c1 => exact attCells w7 n1 v1
      case c2 => intro v hv; simp at hv; rcases hv with rfl | rfl <;> rfl
      case c3 => unfold maxLen; omega
      case c4 => omega
      case c5 => have := S7.out.on.size; simp; omega
      intro v' w8 hown' hgrow hvn hat
      obtain ⟨a8, c8, rfl⟩ := owns_slice hown'
      have hown8 : w8.ownsRow w.heap.size 73 2 (.slice a8 (k + 1) c8) (k + 1) (flatA (es ++ [⟨n1, v1⟩])) := by rw [flatA_snoc]; exact hown'
      have hnil8 : a8 = none → c8 = 0 := by
        intro e
        subst e
        rcases hown'.2 with ⟨hv, h0⟩ | ⟨g, cap, cur, hv, _⟩
        · omega
        · cases hv
      have S8 := Lib.hid ((S7.out.below (below1 w7 (.cells #[.string n1, .string v1] 73))).far HE.out hgrow (fun g hg => (O7.out.lt g hg).1))
      have O8 := Lib.hid hown8
      have NIL8 := Lib.hid hnil8
      have HL8 : Hid ((es ++ [(⟨n1, v1⟩ : At)]).length = k + 1) := Lib.hid (by rw [List.length_append, HL.out]; rfl)
      clear hown' hgrow hvn hat hown8 hnil8
      go_wp2
      go_roundw
      case rel => exact ⟨k + 1, qq, es ++ [⟨n1, v1⟩], a8, c8, by go_num, by omega, rfl, HQ2, HL8, S8.out, O8.out, NIL8.out⟩
      case measure => simp [intOf]; omega
    · obtain rfl : k = N := by omega
      have hq := HQ.out
      rw [Nat.sub_self] at hq
      have HQ2 : Hid ((q, es) = F) := Lib.hid hq
      clear hq
      go_wp2
      go_ret
      exact ⟨a, k, c, rfl, by rw [← HQ2.out]; exact OO.out, by rw [← HQ2.out, HL.out], NIL.out, by rw [← HQ2.out]; exact SS.out⟩

/-- an item was read -/
def ItP (w0 w : World) (b m : Nat) (g : Option Nat) (x : It) (xs : List Int) (ts : List ByteArray) (e : Ending) (w' : World) : Prop :=
  ∃ a n c, e = .returned (.agg #[.int .i64 x.depth, .string x.text, .string x.space, .string x.name, .slice a n c]) ∧ OwnAts w' w.heap.size w'.heap.size a n c x.attrs ∧ (a = none → c = 0) ∧ PSt w0 w w' b m g xs ts
theorem noAts (w : World) (lo hi : Nat) : OwnAts w lo hi none 0 0 [] := ⟨⟨rfl, by omega, fun i => by simp [dAt], .inl rfl⟩, .inl rfl⟩

set_option maxRecDepth 100000 in
set_option maxHeartbeats 6400000 in
theorem pitem_any (w0 : World) (sa : Addr) (hs : Sent w0 sa) (b m : Nat) (g : Option Nat) (xs : List Int) (ts : List ByteArray) (w : World) (h : RpAt w0 w b m g xs ts) (hl : xs.length ≤ 3000) (hts : ∀ t ∈ ts, t.size ≤ 60) :
    Calls Tryz.prog 63 #[.pointer (some ⟨b, 0, none⟩)] w (ItP w0 w b m g (iN ts xs) (iR ts xs) ts) := by
  have KN : Hid (∀ (q : List Int) (W : World) (hh : PSt w0 w W b m g q ts), Calls Tryz.prog 85 #[.pointer (some ⟨b, 0, none⟩)] W fun e w' => e = .returned (.int .i64 (vreadN q)) ∧ PSt w0 w w' b m g (pR q) ts ∧ W.grownBy w' (some b)) :=
    Lib.hid (fun q W hh => (pnumber_any w0 sa hs b m g q ts W hh.rp).mono fun e w' ⟨a, bb, c⟩ => ⟨a, ⟨bb, hh.on.trans c⟩, onlyGrown c⟩)
  have KT : Hid (∀ (q : List Int) (W : World) (hh : PSt w0 w W b m g q ts), Calls Tryz.prog 88 #[.pointer (some ⟨b, 0, none⟩)] W fun e w' => e = .returned (.string (mN ts q)) ∧ PSt w0 w w' b m g (mR ts q) ts ∧ W.grownBy w' (some b)) :=
    Lib.hid (fun q W hh => (pnamed_any w0 sa hs b m g q ts W hh.rp).mono fun e w' ⟨a, bb, c⟩ => ⟨a, ⟨bb, hh.on.trans c⟩, onlyGrown c⟩)
  unfold ItP
  have HE := Lib.hid h
  have hlt := h.book.lt
  have H0 : Hid (PSt w0 w w b m g xs ts) := Lib.hid ⟨h, Only.refl _⟩
  have hbd := vreadN_bd (pR xs)
  have hxne : some w.heap.size ≠ some b := by simp; omega
  have K1 := Lib.hid (KN.out xs)
  have K2 := Lib.hid (KN.out (pR xs))
  clear h
  by_cases hk : vreadN (pR xs) = 0
  · have eV : iN ts xs = ⟨vreadN xs, mN ts (pR (pR xs)), ByteArray.empty, ByteArray.empty, []⟩ := by unfold iN; rw [if_pos hk]
    have eR : iR ts xs = mR ts (pR (pR xs)) := by unfold iR; rw [if_pos hk]
    rw [eV, eR]
    rw [hk] at K2
    have K3 := Lib.hid (KT.out (pR (pR xs)))
    generalize vreadN xs = d at *
    generalize mN ts (pR (pR xs)) = tx at *
    generalize mR ts (pR (pR xs)) = r3 at *
    generalize pR (pR xs) = r2 at *
    generalize pR xs = r1 at *
    clear eV eR hk hbd
    go_enter Tryz.func63, Tryz.ntmps63
    go_wp2_with fail
    refine (K1.out _ (H0.out.below (below1 w _))).mono ?_
    rintro e w1 ⟨rfl, s1, g1⟩
    have S1 := Lib.hid s1
    have R1 := Lib.hid ((X5.new w 68 _ _ _ _ _).grown g1 hxne)
    have hz1 : w.heap.size + 1 ≤ w1.heap.size := by have := g1.size; simpa using this
    have hx1 : some w1.heap.size ≠ some b := by have := s1.rp.book.lt; simp; omega
    clear s1 g1
    go_wp2_with fail
    refine (K2.out _ (S1.out.below (below1 w1 _))).mono ?_
    rintro e w2 ⟨rfl, s2, g2⟩
    have S2 := Lib.hid s2
    have R2 := Lib.hid ((R1.out.grown (World.grownBy_alloc _ _ (some b)) hxne).grown g2 hxne)
    have X2 := Lib.hid ((X5.new w1 68 _ _ _ _ _).grown g2 hx1)
    have hz2' : w1.heap.size + 1 ≤ w2.heap.size := by have := g2.size; simpa using this
    clear s2 g2
    go_wp2_with fail
    refine (K3.out _ S2.out).mono ?_
    rintro e w3 ⟨rfl, s3, g3⟩
    have S3 := Lib.hid s3
    have R3 := Lib.hid (R2.out.grown g3 hxne)
    have X3 := Lib.hid (X2.out.grown g3 hx1)
    clear s3 g3
    have x0 := X3.out.c0
    have x1 := X3.out.c1
    have x2 := X3.out.c2
    have x3 := X3.out.c3
    have x4 := X3.out.c4
    have xf := X3.out.fz 1 (by decide)
    have xl := X3.out.lt
    have y0 := R3.out.c0
    have y1 := R3.out.c1
    have y2 := R3.out.c2
    have y3 := R3.out.c3
    have y4 := R3.out.c4
    have yf0 := R3.out.fz 0 (by decide)
    have yf1 := R3.out.fz 1 (by decide)
    have yf2 := R3.out.fz 2 (by decide)
    have yf3 := R3.out.fz 3 (by decide)
    have yf4 := R3.out.fz 4 (by decide)
    have hne12 : w1.heap.size ≠ w.heap.size := by omega
    have Z := (R3.out.grown (grown_set w3 ⟨w1.heap.size, 1, none⟩ (.string tx)) (by simp; omega)).fill (.int .i64 d) (.string tx) (.string ⟨#[]⟩) (.string ⟨#[]⟩) (.slice none 0 0)
    have z0 := Z.c0
    have z1 := Z.c1
    have z2 := Z.c2
    have z3 := Z.c3
    have z4 := Z.c4
    go_wp2
    exact bodyPost_ret (v := .agg #[.int .i64 d, .string tx, .string ⟨#[]⟩, .string ⟨#[]⟩, .slice none 0 0]) (by simp [results, Tryz.results63, go_sem, z0, z1, z2, z3, z4]) rfl
      ⟨none, 0, 0, rfl, noAts _ _ _, fun _ => rfl, (S3.out.set HE.out _ _ (by simp; omega)).fill HE.out _ (Nat.le_refl _) _ _ _ _ _⟩
  · by_cases hk1 : vreadN (pR xs) = 1
    · have eV : iN ts xs = ⟨vreadN xs, ByteArray.empty, mN ts (pR (pR xs)), mN ts (mR ts (pR (pR xs))), (aA ts (mR ts (mR ts (pR (pR xs))))).2⟩ := by unfold iN; rw [if_neg hk, if_pos hk1]
      have eR : iR ts xs = (aA ts (mR ts (mR ts (pR (pR xs))))).1 := by unfold iR; rw [if_neg hk, if_pos hk1]
      rw [eV, eR]
      rw [hk1] at K2
      have K3 := Lib.hid (KT.out (pR (pR xs)))
      have K4 := Lib.hid (KT.out (mR ts (pR (pR xs))))
      have hlen : (mR ts (mR ts (pR (pR xs)))).length ≤ 3000 := by
        have h1 := pR_len xs
        have h2 := pR_len (pR xs)
        have h3 := mR_len ts (pR (pR xs))
        have h4 := mR_len ts (mR ts (pR (pR xs)))
        omega
      have hsz0 : ∀ i, ((aA ts (mR ts (mR ts (pR (pR xs))))).2.getD i dAt).name.size ≤ 60 ∧ ((aA ts (mR ts (mR ts (pR (pR xs))))).2.getD i dAt).value.size ≤ 60 := aF_small hts _ _ [] (fun i => by simp [dAt])
      have hal := (aA_len ts (mR ts (mR ts (pR (pR xs))))).2
      have KA : Hid (∀ (W : World) (hh : PSt w0 w W b m g (mR ts (mR ts (pR (pR xs)))) ts), Calls Tryz.prog 89 #[.pointer (some ⟨b, 0, none⟩)] W fun e w' => ∃ a n c, e = .returned (.slice a n c) ∧ w'.ownsRow W.heap.size 73 2 (.slice a n c) n (flatA (aA ts (mR ts (mR ts (pR (pR xs))))).2) ∧ n = (aA ts (mR ts (mR ts (pR (pR xs))))).2.length ∧ (a = none → c = 0) ∧ PSt w0 w w' b m g (aA ts (mR ts (mR ts (pR (pR xs))))).1 ts ∧ W.grownBy w' (some b)) :=
        Lib.hid (fun W hh => (pattrs_any w0 sa hs b m g _ ts W hh.rp hlen).mono fun e w' ⟨a, n, c, h1, h2, h3, h4, h5⟩ => ⟨a, n, c, h1, h2, h3, h4, ⟨h5.rp, hh.on.trans h5.on⟩, onlyGrown h5.on⟩)
      generalize vreadN xs = d at *
      generalize (aA ts (mR ts (mR ts (pR (pR xs))))).2 = al at *
      generalize (aA ts (mR ts (mR ts (pR (pR xs))))).1 = r5 at *
      generalize mN ts (pR (pR xs)) = sp at *
      generalize mN ts (mR ts (pR (pR xs))) = nm at *
      generalize mR ts (mR ts (pR (pR xs))) = r4 at *
      generalize mR ts (pR (pR xs)) = r3 at *
      generalize pR (pR xs) = r2 at *
      generalize pR xs = r1 at *
      have SZ := Lib.hid hsz0
      clear eV eR hk hk1 hbd hsz0
      go_enter Tryz.func63, Tryz.ntmps63
      go_wp2_with fail
      refine (K1.out _ (H0.out.below (below1 w _))).mono ?_
      rintro e w1 ⟨rfl, s1, g1⟩
      have S1 := Lib.hid s1
      have R1 := Lib.hid ((X5.new w 68 _ _ _ _ _).grown g1 hxne)
      have hz1 : w.heap.size + 1 ≤ w1.heap.size := by have := g1.size; simpa using this
      have hx1 : some w1.heap.size ≠ some b := by have := s1.rp.book.lt; simp; omega
      clear s1 g1
      go_wp2_with fail
      refine (K2.out _ (S1.out.below (below1 w1 _))).mono ?_
      rintro e w2 ⟨rfl, s2, g2⟩
      have S2 := Lib.hid s2
      have R2 := Lib.hid ((R1.out.grown (World.grownBy_alloc _ _ (some b)) hxne).grown g2 hxne)
      have X2 := Lib.hid ((X5.new w1 68 _ _ _ _ _).grown g2 hx1)
      have hz2' : w1.heap.size + 1 ≤ w2.heap.size := by have := g2.size; simpa using this
      clear s2 g2
      go_wp2_with fail
      refine (K3.out _ S2.out).mono ?_
      rintro e w3 ⟨rfl, s3, g3⟩
      have S3 := Lib.hid (s3.set HE.out ⟨w1.heap.size, 2, none⟩ (.string sp) (by simp; omega))
      have R3 := Lib.hid ((R2.out.grown g3 hxne).grown (grown_set w3 ⟨w1.heap.size, 2, none⟩ (.string sp)) (by simp; omega))
      have X3 := Lib.hid ((X2.out.grown g3 hx1).set 2 (.string sp) (by decide))
      have xs2 := (X2.out.grown g3 hx1).c2
      have xf2 := (X2.out.grown g3 hx1).fz 2 (by decide)
      have xl2 := (X2.out.grown g3 hx1).lt
      have hz3 : w2.heap.size ≤ w3.heap.size := g3.size
      clear s3 g3
      go_wp2_with fail
      refine (K4.out _ S3.out).mono ?_
      rintro e w4 ⟨rfl, s4, g4⟩
      have S4 := Lib.hid (s4.set HE.out ⟨w1.heap.size, 3, none⟩ (.string nm) (by simp; omega))
      have R4 := Lib.hid ((R3.out.grown g4 hxne).grown (grown_set w4 ⟨w1.heap.size, 3, none⟩ (.string nm)) (by simp; omega))
      have X4 := Lib.hid ((X3.out.grown g4 hx1).set 3 (.string nm) (by decide))
      have xs3 := (X3.out.grown g4 hx1).c3
      have xf3 := (X3.out.grown g4 hx1).fz 3 (by decide)
      have xl3 := (X3.out.grown g4 hx1).lt
      have hz4 : w3.heap.size ≤ w4.heap.size := by have := g4.size; simpa using this
      clear s4 g4 xs2 xf2 xl2
      go_wp2_with fail
      refine (KA.out _ S4.out).mono ?_
      rintro e w5 ⟨a5, n5, c5, rfl, ho5, hn5, hnil5, s5, g5⟩
      have hz5 : w4.heap.size ≤ w5.heap.size := by have := g5.size; simpa using this
      have S5 := Lib.hid (s5.set HE.out ⟨w1.heap.size, 4, none⟩ (.slice a5 n5 c5) (by simp; omega))
      have R5 := Lib.hid ((R4.out.grown g5 hxne).grown (grown_set w5 ⟨w1.heap.size, 4, none⟩ (.slice a5 n5 c5)) (by simp; omega))
      have X5' := (X4.out.grown g5 hx1).set 4 (.slice a5 n5 c5) (by decide)
      have X5' : Hid (X5 (w5.setCell ⟨w1.heap.size, 4, none⟩ (.slice a5 n5 c5)) w1.heap.size (.int .i64 d) (.string ⟨#[]⟩) (.string sp) (.string nm) (.slice a5 n5 c5)) := Lib.hid (by simpa using X5')
      have xs4 := (X4.out.grown g5 hx1).c4
      have xf4 := (X4.out.grown g5 hx1).fz 4 (by decide)
      have xl4 := (X4.out.grown g5 hx1).lt
      have hne1 : (Value.slice a5 n5 c5).ownBlock ≠ some w1.heap.size := fun e => by have := (ho5.lt _ e).1; simp at this; omega
      have hne0 : (Value.slice a5 n5 c5).ownBlock ≠ some w.heap.size := fun e => by have := (ho5.lt _ e).1; simp at this; omega
      have O5 := Lib.hid (row_kept ho5 (grown_set w5 ⟨w1.heap.size, 4, none⟩ (.slice a5 n5 c5)) hne1)
      have NIL := Lib.hid hnil5
      have hn53 : n5 ≤ 3000 := by omega
      have HN0 := Lib.hid hne0
      have hwz : w.heap.size ≤ (w4.setCell ⟨w1.heap.size, 3, none⟩ (.string nm)).heap.size := by simp; omega
      clear s5 g5 ho5 hn5 hnil5 xs3 xf3 xl3 hne1 hne0
      have x0 := X5'.out.c0
      have x1 := X5'.out.c1
      have x2 := X5'.out.c2
      have x3 := X5'.out.c3
      have x4 := X5'.out.c4
      have y0 := R5.out.c0
      have y1 := R5.out.c1
      have y2 := R5.out.c2
      have y3 := R5.out.c3
      have y4 := R5.out.c4
      have yf0 := R5.out.fz 0 (by decide)
      have yf1 := R5.out.fz 1 (by decide)
      have yf2 := R5.out.fz 2 (by decide)
      have yf3 := R5.out.fz 3 (by decide)
      have yf4 := R5.out.fz 4 (by decide)
      have Z := R5.out.fill (.int .i64 d) (.string ⟨#[]⟩) (.string sp) (.string nm) (.slice a5 n5 c5)
      have z0 := Z.c0
      have z1 := Z.c1
      have z2 := Z.c2
      have z3 := Z.c3
      have z4 := Z.c4
      go_wp2
      exact bodyPost_ret (v := .agg #[.int .i64 d, .string ⟨#[]⟩, .string sp, .string nm, .slice a5 n5 c5]) (by simp [results, Tryz.results63, go_sem, z0, z1, z2, z3, z4]) rfl
        ⟨a5, n5, c5, rfl, ownAts_of (owns_fill (owns_mono O5.out hwz) w.heap.size HN0.out _ _ _ _ _) (by omega) (fun i => by have := SZ.out i; omega), NIL.out, S5.out.fill HE.out _ (Nat.le_refl _) _ _ _ _ _⟩
    · have eV : iN ts xs = ⟨vreadN xs, ByteArray.empty, ByteArray.empty, ByteArray.empty, []⟩ := by unfold iN; rw [if_neg hk, if_neg hk1]
      have eR : iR ts xs = [] := by unfold iR; rw [if_neg hk, if_neg hk1]
      rw [eV, eR]
      have hk0' : (vreadN (pR xs) == 0) = false := by rw [beq_eq_false_iff_ne]; exact hk
      have hk1' : (vreadN (pR xs) == 1) = false := by rw [beq_eq_false_iff_ne]; exact hk1
      generalize vreadN xs = d at *
      generalize vreadN (pR xs) = kd at *
      generalize pR (pR xs) = r2 at *
      generalize pR xs = r1 at *
      clear eV eR hk hk1
      go_enter Tryz.func63, Tryz.ntmps63
      go_wp2_with fail
      refine (K1.out _ (H0.out.below (below1 w _))).mono ?_
      rintro e w1 ⟨rfl, s1, g1⟩
      have S1 := Lib.hid s1
      have R1 := Lib.hid ((X5.new w 68 _ _ _ _ _).grown g1 hxne)
      have hz1 : w.heap.size + 1 ≤ w1.heap.size := by have := g1.size; simpa using this
      have hx1 : some w1.heap.size ≠ some b := by have := s1.rp.book.lt; simp; omega
      clear s1 g1
      go_wp2_with fail
      refine (K2.out _ (S1.out.below (below1 w1 _))).mono ?_
      rintro e w2 ⟨rfl, s2, g2⟩
      obtain ⟨aq, nq, cq, q2, _, _⟩ := s2.rp.c2
      have KS := Lib.hid (stop_any b _ _ q2 s2.rp.f2)
      have S2 : Hid (PSt w0 w (w2.setCell ⟨b, 2, none⟩ (.slice none 0 0)) b m g [] ts) := Lib.hid ⟨s2.rp.stopped, s2.on.trans (Only.set _ _ _ rfl)⟩
      have R2 := Lib.hid (((R1.out.grown (World.grownBy_alloc _ _ (some b)) hxne).grown g2 hxne).grown (grown_set w2 ⟨b, 2, none⟩ (.slice none 0 0)) hxne)
      have X2 := Lib.hid (((X5.new w1 68 _ _ _ _ _).grown g2 hx1).grown (grown_set w2 ⟨b, 2, none⟩ (.slice none 0 0)) hx1)
      have hz2' : w1.heap.size + 1 ≤ w2.heap.size := by have := g2.size; simpa using this
      clear s2 g2 q2
      go_wp2_with fail
      refine KS.out.mono ?_
      rintro e w3 ⟨rfl, rfl⟩
      have x0 := X2.out.c0
      have x1 := X2.out.c1
      have x2 := X2.out.c2
      have x3 := X2.out.c3
      have x4 := X2.out.c4
      have y0 := R2.out.c0
      have y1 := R2.out.c1
      have y2 := R2.out.c2
      have y3 := R2.out.c3
      have y4 := R2.out.c4
      have yf0 := R2.out.fz 0 (by decide)
      have yf1 := R2.out.fz 1 (by decide)
      have yf2 := R2.out.fz 2 (by decide)
      have yf3 := R2.out.fz 3 (by decide)
      have yf4 := R2.out.fz 4 (by decide)
      have Z := R2.out.fill (.int .i64 d) (.string ⟨#[]⟩) (.string ⟨#[]⟩) (.string ⟨#[]⟩) (.slice none 0 0)
      have z0 := Z.c0
      have z1 := Z.c1
      have z2 := Z.c2
      have z3 := Z.c3
      have z4 := Z.c4
      go_wp2
      exact bodyPost_ret (v := .agg #[.int .i64 d, .string ⟨#[]⟩, .string ⟨#[]⟩, .string ⟨#[]⟩, .slice none 0 0]) (by simp [results, Tryz.results63, go_sem, z0, z1, z2, z3, z4]) rfl
        ⟨none, 0, 0, rfl, noAts _ _ _, fun _ => rfl, S2.out.fill HE.out _ (Nat.le_refl _) _ _ _ _ _⟩
end Go.Proofs.YtbfjhjkllaceaaaGreatDoor

/- The program's reader of frames: items. -/
namespace Go.Proofs.YtbfjhjkllaceaaaGreatDoor
open Go.ChangeShapes Go.WideShapes Go.ChangeAt Go.RowKit
set_option linter.unusedVariables false

theorem growNil (w : World) (B : Nat) : GrowIts w B (.slice none 0 0) 0 [] (fun _ => none) (fun _ => 0) (fun _ => 0) :=
  ⟨World.ownsRow_nil _ _ _ _, fun i hi => by simp at hi, fun i hi => by simp at hi, fun i j hi => by simp at hi⟩
/-- behind a step of the book -/
theorem RpAt.placed {w0 w w' : World} {b m : Nat} {g g' : Option Nat} {xs : List Int} {ts ts' : List ByteArray} (h : RpAt w0 w b m g xs ts) (hb : BookAt (fun i => w0.heap.size ≤ i) w0 w' b m g' ts') (h2 : w'.cell? ⟨b, 2, none⟩ = w.cell? ⟨b, 2, none⟩ ∧ w'.frozen? ⟨b, 2, none⟩ = w.frozen? ⟨b, 2, none⟩) : RpAt w0 w' b m g' xs ts' := by
  obtain ⟨a, n, c, h3, h4, h5⟩ := h.c2
  exact ⟨hb, h.byte, ⟨a, n, c, h2.1.trans h3, h4, h5⟩, h2.2.trans h.f2⟩

/-- the whole frame was read -/
def ItsP (w0 w : World) (b m : Nat) (g : Option Nat) (es : List It) (e : Ending) (w' : World) : Prop :=
  ∃ a n c g' xs' ts' lo, e = .returned (.slice a n c) ∧ OwnIts w' lo w'.heap.size a n c es ∧ w.heap.size ≤ lo ∧ (∀ i, BookP b m g' i → i < lo) ∧ RpAt w0 w' b m g' xs' ts' ∧ NewG w g g' ∧ Only (BookP b m g) w w'

set_option maxRecDepth 100000 in
set_option maxHeartbeats 6400000 in
theorem pitems_any (w0 : World) (sa : Addr) (hs : Sent w0 sa) (hT : Tabs w0) (b m : Nat) (g : Option Nat) (xs : List Int) (w : World) (h : RpAt w0 w b m g xs []) (hl : xs.length ≤ 3000) :
    Calls Tryz.prog 34 #[.pointer (some ⟨b, 0, none⟩)] w (ItsP w0 w b m g (pI xs)) := by
  obtain ⟨i0, hi, hz0, hi1, hz2⟩ := info_parts itemInfo
  have KC := Lib.hid (fun (g : Option Nat) (q : List Int) (ts : List ByteArray) (W : World) (h : RpAt w0 W b m g q ts) => pcount_any w0 sa hs b m g q ts W h)
  unfold NumP at KC
  have KT := Lib.hid (fun (g : Option Nat) (q : List Int) (ts : List ByteArray) (W : World) (h : RpAt w0 W b m g q ts) => ptext_any w0 sa hs hT b m g q ts W h)
  unfold TxtP at KT
  have KP := Lib.hid (fun (g : Option Nat) (ts : List ByteArray) (t : ByteArray) (W : World) (h : BookAt (fun i => w0.heap.size ≤ i) w0 W b m g ts) (hl : ts.length ≤ 100000) (ht : t.size ≤ 9223372036854775807) => placeOf_all (fun i => w0.heap.size ≤ i) w0 b m g ts t W h hl ht)
  unfold PlaceAll PlaceRes at KP
  unfold ItsP
  have K0 := Lib.hid (KC.out g xs [] w h)
  have HE := Lib.hid h
  have hbd := cN_bd xs
  have hcl := cR_len xs
  obtain ⟨N, hN⟩ : ∃ N : Nat, cN xs = N := ⟨(cN xs).toNat, by omega⟩
  generalize hes : pI xs = ES
  unfold pI at hes
  have hS : pS xs = sF N (cR xs) [] := by unfold pS; rw [hN, Int.toNat_natCast]
  rw [hN] at K0 hbd
  generalize hT0 : pS xs = T at *
  have hTl := sF_len N (cR xs) []
  have hTs := sF_small N (cR xs) [] (fun t ht => by simp at ht)
  rw [← hS] at hTl hTs
  simp only [List.length_nil] at hTl
  have HS := Lib.hid hS.symm
  have HTL : Hid (T.1.length ≤ 3000 ∧ T.2.length ≤ 3000) := Lib.hid (by omega)
  have HTS := Lib.hid hTs
  have HES := Lib.hid hes
  have hN3 : N ≤ 3000 := by omega
  generalize cR xs = x1 at *
  have hlt := h.book.lt
  clear h hbd hcl hN hes hS hT0 hTl hTs
  go_enter Tryz.func34, Tryz.ntmps34
  go_wp2_with fail
  refine K0.out.mono ?_
  rintro e w1 ⟨rfl, h1, ho1⟩
  have H1 := Lib.hid h1
  have HO1 : Hid (Only (BookP b m g) w w1) := Lib.hid (ho1.mono fun i hi => .inl hi)
  clear h1 ho1
  go_wp2
  go_loopw [6] (fun i wr => ∃ (k : Nat) (q : List Int) (tk : List ByteArray) (gr : Option Nat), i = .int .i64 k ∧ k ≤ N ∧ Hid (sF (N - k) q tk = T) ∧ tk.length ≤ k ∧ RpAt w0 wr b m gr q tk ∧ NewG w g gr ∧ Only (BookP b m g) w wr) (fun i _ => N - (intOf i).toNat)
  case atStart => exact ⟨0, x1, [], g, rfl, Nat.zero_le _, HS, by simp, H1.out, NewG.same _ _, HO1.out⟩
  case round =>
    obtain ⟨k, q, tk, gr, rfl, hk, HQ, htk, hr, hng, hon⟩ := hrel
    have HR := Lib.hid hr
    have HNG := Lib.hid hng
    have HON := Lib.hid hon
    clear hr hng hon
    by_cases hkn : k < N
    · have hq := HQ.out
      rw [show N - k = (N - (k + 1)) + 1 by omega] at hq
      unfold sF at hq
      have HQ2 := Lib.hid hq
      have K1 := Lib.hid (KT.out gr q tk wr.drew (HR.out.keep ((Below.refl _ _).drew)))
      have hts := stxt_small q
      generalize stxt q = t at *
      generalize tR q = q1 at *
      have k7 : (k : Int) < (N : Int) := by omega
      have hal := addT_length tk t
      clear hq
      go_wp2
      first | (go_region_with (first
        | (go_at_call 62; refine K1.out.mono ?_; rintro e w3 ⟨rfl, h3, ho3⟩)
        | (go_at_call 61; refine (KP.out gr tk t _ h3.book (by omega) (by omega)).mono ?_; rintro e w4 ⟨⟨rfl, g4, h4, hn4, ho4⟩, hsm4⟩))) | fail
      all_goals
        have H4 := Lib.hid (h3.placed h4 hsm4)
        have HO3 : Hid (Only (BookP b m g) w w3) := Lib.hid ((HON.out.trans (Only.below ((Below.refl _ _).drew))).trans (ho3.mono fun i hi => .inl hi))
        have HO4 := Lib.hid (HO3.out.then HNG.out ho4)
        have HN4 := Lib.hid (HNG.out.trans HO3.out.size hn4)
        clear h3 ho3 h4 hn4 ho4 hsm4
        go_wp2
        go_roundw
        case rel => exact ⟨k + 1, q1, addT tk t, g4, by go_num, by omega, HQ2, by omega, H4.out, HN4.out, HO4.out⟩
        case measure => simp [intOf]; omega
    · obtain rfl : k = N := by omega
      have hq := HQ.out
      rw [Nat.sub_self] at hq
      have hq2 : (q, tk) = T := hq
      have hts1 := HTS.out
      have hlq := HTL.out
      have hes := HES.out
      rw [← hq2] at hts1 hlq hes
      have hbd2 := cN_bd q
      have hcl2 := cR_len q
      obtain ⟨M, hM⟩ : ∃ M : Nat, cN q = M := ⟨(cN q).toNat, by omega⟩
      have KC2 := Lib.hid (KC.out gr q tk wr HR.out)
      rw [hM] at KC2 hbd2
      simp only [hM, Int.toNat_natCast] at hes
      simp only at hts1 hlq
      have hM3 : M ≤ 3000 := by omega
      have hr3 : (cR q).length ≤ 3000 := by omega
      have HES2 := Lib.hid hes
      have HTS2 := Lib.hid hts1
      have hge : w.heap.size ≤ wr.heap.size := HON.out.size
      generalize cR q = q2 at *
      clear hq hq2 hts1 hes hM hbd2 hcl2
      go_wp2_with fail
      refine KC2.out.mono ?_
      rintro e wE ⟨rfl, h1, ho1⟩
      have HRE := Lib.hid h1
      have HOE : Hid (Only (BookP b m g) w wE) := Lib.hid (HON.out.trans (ho1.mono fun i hi => .inl hi))
      have hlE := h1.book.lt
      have KI := Lib.hid (fun (y : List Int) (W : World) (hh : RpAt w0 W b m gr y tk) (hy : y.length ≤ 3000) => pitem_any w0 sa hs b m gr y tk W hh hy HTS2.out)
      unfold ItP at KI
      have hgeE : w.heap.size ≤ wE.heap.size := HOE.out.size
      clear h1 ho1
      go_wp2
      go_loopw [3, 17] (fun v i wz => ∃ (j : Nat) (y : List Int) (es : List It) (A : Nat → Option Addr) (N C : Nat → Nat) (a : Option Addr) (c : Nat), i = .int .i64 j ∧ j ≤ M ∧ v = .slice a j c ∧ Hid ((iF tk (M - j) y es).2 = ES) ∧ y.length ≤ 3000 ∧ PSt w0 wE wz b m gr y tk ∧ GrowIts wz wE.heap.size (.slice a j c) j es A N C ∧ (∀ i, ReadIt (es.getD i dIt))) (fun _ i _ => M - (intOf i).toNat)
      case atStart => exact ⟨0, q2, [], _, _, _, none, 0, rfl, Nat.zero_le _, rfl, HES2, hr3, ⟨HRE.out, Only.refl _⟩, growNil _ _, fun i => by simpa using dIt_read⟩
      case round =>
        obtain ⟨j, y, es, A, NN, C, a', c', rfl, hj, rfl, HY, hy3, hS, hG, hrd⟩ := hrel
        have SS := Lib.hid hS
        have GG := Lib.hid hG
        have RD := Lib.hid hrd
        clear hS hG hrd
        by_cases hjm : j < M
        · have hq := HY.out
          rw [show M - j = (M - (j + 1)) + 1 by omega] at hq
          unfold iF at hq
          have HY2 := Lib.hid hq
          have K1 := Lib.hid (KI.out y _ SS.out.rp hy3)
          have HRI := Lib.hid (iN_read HTS2.out y hy3)
          have hle := iR_len tk y
          generalize iN tk y = z at *
          generalize iR tk y = y1 at *
          obtain ⟨yd, yt, ys, yn, ya⟩ := z
          dsimp only at K1
          have k7 : (j : Int) < (M : Int) := by omega
          clear hq
          go_wp2_with fail
          refine K1.out.mono ?_
          rintro e w3 ⟨a6, n6, c6, rfl, ho6, hnil6, s6⟩
          have O6 := Lib.hid ho6
          have NIL6 := Lib.hid hnil6
          have S6 := Lib.hid s6
          have OR := Lib.hid (rowOnly GG.out.row S6.out.on (fun k hk e => by have := (GG.out.row.lt k hk).1; omega))
          have hge1 : wE.heap.size ≤ w3.heap.size := Nat.le_trans SS.out.on.size S6.out.on.size
          clear ho6 hnil6 s6
          go_wp2_with (at_builtin; refine wpList_append_own_at _ rfl _ _ 24 rfl wE.heap.size 68 i0 (.agg #[.int .i64 0, .string ByteArray.empty, .string ByteArray.empty, .string ByteArray.empty, .slice none 0 0]) 5 80 Tryz.underlying24 hi hz0 hi1 hz2 rfl (by decide) _ j _ rfl (OR.out.alloc _) ⟨w3.heap.size, 0, none⟩ 1 1 [.int .i64 yd, .string yt, .string ys, .string yn, .slice a6 n6 c6] rfl rfl ?c1 ?c2 ?c3 ?c4 ?c5 ?_)
          case c1 => exact fun j u hj => itCells w3 _ _ _ _ _ j u hj
          case c2 => intro v hv; simp at hv; rcases hv with rfl | rfl | rfl | rfl | rfl <;> rfl
          case c3 => unfold maxLen; omega
          case c4 => omega
          case c5 => simp; omega
          intro v' w4 hown' hgrow _ hat
          obtain ⟨a8, c8, rfl⟩ := owns_slice hown'
          have hb2 := below1 w3 (.cells #[.int .i64 yd, .string yt, .string ys, .string yn, .slice a6 n6 c6] 68)
          have hatt := O6.out.only (Only.below (P := fun _ => False) hb2) fun _ _ _ h => h
          have G8 := Lib.hid (GG.out.snocO (P := fun i => i = b) (x := ⟨yd, yt, ys, yn, ya⟩) (S6.out.on.trans (Only.below hb2)) (fun i hi e => by omega)
            ⟨hatt.ats, hatt.own.imp id fun ⟨q, g1, g2, g3, g4⟩ => ⟨q, g1, g2, by have := hb2.size; omega, g4⟩⟩ NIL6.out SS.out.on.size hown' hgrow (hat.imp id fun e => ⟨w3.heap.size + 1, by simpa using e, by simp⟩))
          have S8 := Lib.hid (((show PSt w0 wE w3 b m gr y1 tk from ⟨S6.out.rp, SS.out.on.trans S6.out.on⟩).below hb2).far HRE.out hgrow (fun g hg => (OR.out.lt g hg).1))
          have RD8 := Lib.hid (reads_snoc RD.out HRI.out)
          clear hown' hgrow hat hatt hb2
          go_wp2
          go_roundw
          case rel => exact ⟨j + 1, y1, es ++ [⟨yd, yt, ys, yn, ya⟩], _, _, _, a8, c8, by go_num, by omega, rfl, HY2, by omega, S8.out, G8.out, RD8.out⟩
          case measure => simp [intOf]; omega
        · obtain rfl : j = M := by omega
          have hq := HY.out
          rw [Nat.sub_self] at hq
          have HEq : Hid (es = ES) := Lib.hid hq
          have OI := Lib.hid (GG.out.own (by omega) (fun i hi => by have := RD.out i; exact ⟨⟨by have := this.depth; omega, this.depth.2⟩, ⟨by have := this.sizes; omega, by have := this.sizes; omega, by have := this.sizes; omega⟩⟩))
          clear hq
          go_wp2
          go_ret
          exact ⟨a', j, c', gr, y, tk, _, rfl, by rw [← HEq.out]; exact OI.out, hgeE, fun i hi => HRE.out.book.inside hi, SS.out.rp, HNG.out, HOE.out.trans (SS.out.on.mono fun i hi => .inl hi)⟩
end Go.Proofs.YtbfjhjkllaceaaaGreatDoor
