/- Contracts of the draws of chapter 2. -/
import Derived.Test.YtmgemchpclmknaaDoorDraw4
import Derived.Test.YtmgemchpclmknaaDoorPutString
namespace Go.Proofs.YtmgemchpclmknaaDoor
open Go.ChangeShapes Go.WideShapes Go.ChangeAt Go.RowKit
set_option linter.unusedVariables false

/-- n bytes are drawn, into a new row -/
def SomeRes2 (w : World) (b : Nat) (a : Option Addr) (n c : Nat) (xs : List Int) (k m : Nat) (en : Ending) (w' : World) : Prop :=
  ∃ (g c' : Nat) (ys : List Int), en = .returned (.slice (some ⟨g, 0, none⟩) m c') ∧ w'.ownsRow w.heap.size 5 1 (.slice (some ⟨g, 0, none⟩) m c') m (ys.map (Value.int .u8)) ∧ Src w' b a n c xs (k + m) ∧ w.grownBy w' (some b) ∧ (∀ y ∈ ys, 0 ≤ y ∧ y ≤ 255)

set_option maxHeartbeats 1600000 in
theorem l1Some2_any (b : Nat) (a : Option Addr) (n c : Nat) (xs : List Int) (k m : Nat) (hm : m ≤ 10000) (hk : k + m < 1000000) (w : World) (h : Src w b a n c xs k) :
    Calls Tryd.prog 57 #[.pointer (some ⟨b, 0, none⟩), .int .i64 m] w (SomeRes2 w b a n c xs k m) := by
  obtain ⟨i0, hi, hz0, hz1, hz2⟩ := info_parts u8Info
  have hblt := h.lt
  have HS0 := Lib.hid h
  clear h
  go_enter Tryd.func57, Tryd.ntmps57
  go_wp2
  go_loopw [1, 5] (fun q v wr => ∃ (j r : Nat) (g c' : Nat) (ys : List Int), j + r = m ∧ q = .int .i64 r ∧ v = .slice (some ⟨g, 0, none⟩) j c' ∧ wr.ownsRow w.heap.size 5 1 (.slice (some ⟨g, 0, none⟩) j c') j (ys.map (Value.int .u8)) ∧ Src wr b a n c xs (k + j) ∧ w.grownBy wr (some b) ∧ Hid (∀ y ∈ ys, 0 ≤ y ∧ y ≤ 255)) (fun q _ _ => (intOf q).toNat)
  case atStart => exact ⟨0, m, _, _, [], by omega, rfl, rfl, lit_owns w _ .u8 [] 0 rfl (by decide), HS0.out.alloc _, World.grownBy_alloc _ _ _, Lib.hid (fun y hy => by simp at hy)⟩
  case round =>
    obtain ⟨j, r, g, c', ys, hjr, rfl, rfl, ho, hs, hg, HY⟩ := hrel
    have HO := Lib.hid ho
    have HS := Lib.hid hs
    have HG := Lib.hid hg
    clear ho hs hg
    by_cases hr : 0 < r
    · have K := Lib.hid (l1Next_any b a n c xs (k + j) 256 (by decide) (by decide) (by omega) wr HS.out)
      have hjm : j ≤ 10000 := by omega
      have hrm : r ≤ 10000 := by omega
      go_wp2_with fail
      refine K.out.mono ?_
      rintro e w1 ⟨z, rfl, hz, hs1, hg1⟩
      have hz2' := hz (by decide)
      have HS1 := Lib.hid hs1
      have HO1 := Lib.hid (HO.out.kept hg1 (by
        cases hv : (Value.slice (some ⟨g, 0, none⟩) j c').ownBlock with
        | none => exact .inl rfl
        | some g => exact .inr (fun e => by have := (HO.out.lt g hv).1; cases e; omega)))
      have HG1 := Lib.hid (grown_trans_row HG.out hg1)
      clear hz hs1 hg1
      go_wp2_with (at_builtin; refine wpList_append_own _ rfl _ _ 22 rfl w.heap.size 5 i0 (.int .u8 0) 1 1 Tryd.underlying22 hi hz0 hz1 hz2 rfl (by decide) _ _ _ rfl (HO1.out.alloc _) ⟨w1.heap.size, 0, none⟩ 1 1 [.int .u8 z] rfl rfl ?c1 ?c2 ?c3 ?c4 ?c5 ?_)
      case c1 =>
        intro j v hj
        match j, hj with
        | 0, hj => simp at hj; subst hj; simp [Addr.add]
      case c2 => intro v hv; simp at hv; subst hv; rfl
      case c3 => unfold maxLen; omega
      case c4 => omega
      case c5 => have := HG1.out.size; simp; omega
      intro v' w2 hown' hgrow _
      obtain ⟨a2, c2, rfl⟩ := ownsRow_succ hown'
      have HZ : Hid (∀ y ∈ ys ++ [(z : Int)], 0 ≤ y ∧ y ≤ 255) := Lib.hid (fun y hy => by
        rcases List.mem_append.1 hy with h | h
        · exact HY.out y h
        · simp at h; omega)
      have HG2 := Lib.hid (step_appended HG1.out (Nat.le_refl _) HO1.out hgrow)
      have HS2 := Lib.hid ((HS1.out.alloc _).grown hgrow (fun g e => by have := (HO1.out.lt g e).1; omega))
      have HO2 := Lib.hid hown'
      clear hown' hgrow
      go_wp2
      go_roundw
      case rel => exact ⟨j + 1, r - 1, a2, c2, ys ++ [(z : Int)], by omega, by rw [show ((r - 1 : Nat) : Int) = (r : Int) - 1 by omega], rfl, by rw [List.map_append]; exact HO2.out, HS2.out, HG2.out, HZ⟩
      case measure => simp [intOf]; omega
    · obtain rfl : r = 0 := by omega
      obtain rfl : j = m := by omega
      go_wp2
      go_ret
      exact ⟨g, c', ys, rfl, HO.out, HS.out, HG.out, HY.out⟩


/-- a number is drawn, from 0 on -/
def NumRes (w : World) (b : Nat) (a : Option Addr) (n c : Nat) (xs : List Int) (k : Nat) (en : Ending) (w' : World) : Prop :=
  ∃ N : Nat, en = .returned (.int .i64 N) ∧ N ≤ 9223372036854775807 ∧ Src w' b a n c xs (k + 1 + 1) ∧ w.grownBy w' (some b)

set_option maxRecDepth 100000 in
set_option maxHeartbeats 1600000 in
theorem l2Number_any (b : Nat) (a : Option Addr) (n c : Nat) (xs : List Int) (k : Nat) (hk : k + 1 < 1000000) (w : World) (h : Src w b a n c xs k) :
    Calls Tryd.prog 69 #[.pointer (some ⟨b, 0, none⟩)] w (NumRes w b a n c xs k) := by
  have HS := Lib.hid h
  clear h
  go_enter Tryd.func69, Tryd.ntmps69
  go_wp2_with fail
  refine (l1Next_any b a n c xs k 100000 (by decide) (by decide) (by omega) _ HS.out).mono ?_
  rintro e w1 ⟨r, rfl, hr, hs1, hg1⟩
  have hr1 := hr (by decide)
  have hlt1 := hs1.lt
  have HS1 := Lib.hid hs1
  have HG1 := Lib.hid hg1
  clear hr hs1 hg1
  have HM : Hid (∀ z ∈ [(0 : Int), 1, 127, 128, 16383, 16384, 9223372036854775807, 4611686018427387904, (r : Int)], 0 ≤ z ∧ z ≤ 9223372036854775807) := Lib.hid (fun z hz => by simp at hz; omega)
  go_wp2_with fail
  refine (l1Pick_any b a n c xs (k + 1) w1.heap.size 9 _ rfl (by decide) (by decide) hk _ (HS1.out.alloc _) (lit_row w1 _ .i64 [0, 1, 127, 128, 16383, 16384, 9223372036854775807, 4611686018427387904, (r : Int)] 9 rfl (by decide)) (by omega)).mono ?_
  rintro e w2 ⟨z, rfl, hz, hs2, hg2⟩
  obtain ⟨z0, z1⟩ := HM.out z hz
  have HS2 := Lib.hid hs2
  have HG2 := Lib.hid (grown_trans_row HG1.out (grown_trans_row (World.grownBy_alloc w1 _ (some b)) hg2))
  obtain ⟨N, rfl⟩ := Int.eq_ofNat_of_zero_le z0
  have HN : Hid (N ≤ 9223372036854775807) := Lib.hid (by omega)
  clear hz hs2 hg2 z0 z1
  go_wp2
  go_ret
  exact ⟨N, rfl, HN.out, HS2.out, HG2.out⟩

/-- some number within the bounds is drawn of the code -/
def TopInt2 (w : World) (en : Ending) (w' : World) : Prop := ∃ r : Int, en = .returned (.int .i64 r) ∧ r ≤ 9223372036854775807 ∧ Below w.heap.size w w'

set_option maxRecDepth 100000 in
set_option maxHeartbeats 800000 in
theorem drawPutVar_any (a : Option Addr) (n c : Nat) (xs : List Int) (w : World) (h : CodeAt w a n c xs) :
    Calls Tryd.prog 28 #[.slice a n c] w (TopInt2 w) := by
  have HC := Lib.hid h
  clear h
  go_enter Tryd.func28, Tryd.ntmps28
  go_wp2_with fail
  refine (source_any HC.out).mono ?_
  rintro e w1 ⟨rfl, hs, hb⟩
  have HS := Lib.hid hs
  have HB := Lib.hid hb
  clear hs hb
  go_wp2_with fail
  refine (l1Chance_any _ a n c xs 0 12 (by decide) (by decide) (by decide) _ HS.out).mono ?_
  rintro e w2 ⟨⟨tt, rfl⟩, hs2, hg2⟩
  have HS2 := Lib.hid hs2
  have HB2 := Lib.hid (below_step HB.out hg2 (Nat.le_refl _))
  clear hs2 hg2
  cases tt
  · go_wp2_with fail
    refine (l2Number_any _ a n c xs 1 (by decide) _ HS2.out).mono ?_
    rintro e w3 ⟨N, rfl, hN, hs3, hg3⟩
    have HN := Lib.hid hN
    have HB3 := Lib.hid (below_step HB2.out hg3 (Nat.le_refl _))
    clear hs3 hg3 hN
    go_wp2
    go_ret
    exact ⟨N, rfl, by have := HN.out; omega, HB3.out⟩
  · go_wp2
    go_ret
    exact ⟨-1, rfl, by decide, HB2.out⟩

theorem drawPutString_any (a : Option Addr) (n c : Nat) (xs : List Int) (w : World) (h : CodeAt w a n c xs) :
    Calls Tryd.prog 32 #[.slice a n c] w (TopText w 200) := by
  have K := Lib.hid (drawTextFault_any a n c xs w h)
  unfold TopText at K
  clear h
  go_enter Tryd.func32, Tryd.ntmps32
  go_wp2_with fail
  refine K.out.mono ?_
  rintro e w1 ⟨s, rfl, hs, hb⟩
  have HB := Lib.hid hb
  clear hb
  go_wp2
  go_ret
  exact ⟨s, rfl, hs, HB.out⟩

/-- some bytes are drawn of the code, no more than m -/
def TopBytes (w : World) (m : Nat) (en : Ending) (w' : World) : Prop :=
  ∃ (g n c : Nat) (ys : List Int), en = .returned (.slice (some ⟨g, 0, none⟩) n c) ∧ Row w' .u8 (.slice (some ⟨g, 0, none⟩) n c) ys ∧ n = ys.length ∧ n ≤ m ∧ (∀ y ∈ ys, 0 ≤ y ∧ y ≤ 255) ∧ Below w.heap.size w w'
theorem mem_set {ys : List Int} {i : Nat} {z : Int} (h : ∀ y ∈ ys, 0 ≤ y ∧ y ≤ 255) (hz : 0 ≤ z ∧ z ≤ 255) : ∀ y ∈ ys.set i z, 0 ≤ y ∧ y ≤ 255 := by
  intro y hy
  rcases List.mem_or_eq_of_mem_set hy with h1 | h1
  · exact h y h1
  · rw [h1]; exact hz
theorem mem_app {ys zs : List Int} (h : ∀ y ∈ ys, 0 ≤ y ∧ y ≤ 255) (hz : ∀ y ∈ zs, 0 ≤ y ∧ y ≤ 255) : ∀ y ∈ ys ++ zs, 0 ≤ y ∧ y ≤ 255 := by
  intro y hy
  rcases List.mem_append.1 hy with h1 | h1
  · exact h y h1
  · exact hz y h1
theorem bytesI_bytes (l : List UInt8) : ∀ y ∈ bytesI l, 0 ≤ y ∧ y ≤ 255 := by
  intro y hy
  unfold bytesI at hy
  obtain ⟨c, _, rfl⟩ := List.mem_map.1 hy
  have := c.toNat_lt
  omega
theorem own_ne {W : World} {B size e n c : Nat} {b : Nat} {g : Nat} {l : List Value} (h : W.ownsRow B e size (.slice (some ⟨g, 0, none⟩) n c) n l) (hb : b < B) : (Value.slice (some ⟨g, 0, none⟩) n c).ownBlock = none ∨ (Value.slice (some ⟨g, 0, none⟩) n c).ownBlock ≠ some b :=
  .inr (fun e => by have := (h.lt b e).1; omega)

set_option maxRecDepth 100000 in
set_option maxHeartbeats 3200000 in
theorem drawReadVar_any (a : Option Addr) (n c : Nat) (xs : List Int) (w : World) (h : CodeAt w a n c xs) :
    Calls Tryd.prog 30 #[.slice a n c] w (TopBytes w 200) := by
  have HC := Lib.hid h
  clear h
  obtain ⟨i0, hi, hz0, hz1, hz2⟩ := info_parts u8Info
  go_enter Tryd.func30, Tryd.ntmps30
  go_wp2_with fail
  refine (source_any HC.out).mono ?_
  rintro e w1 ⟨rfl, hs, hb⟩
  have hlt1 := hs.lt
  have HS := Lib.hid hs
  have HB := Lib.hid hb
  clear hs hb
  go_wp2_with fail
  refine (l2Number_any _ a n c xs 0 (by decide) _ HS.out).mono ?_
  rintro e w2 ⟨N, rfl, hN, hs2, hg2⟩
  have hsz2 := hg2.size
  have HS2 := Lib.hid hs2
  have HB2 := Lib.hid (below_step HB.out hg2 (Nat.le_refl _))
  have HL9 := Lib.hid (vput_len9 N hN)
  have HPB : Hid (∀ y ∈ vput N, 0 ≤ y ∧ y ≤ 255) := Lib.hid (vput_bytes N N (Nat.le_refl _))
  have HPP := Lib.hid (vput_pos N)
  have KP := Lib.hid (l2Put_any N hN)
  clear hs2 hg2 hN
  generalize vput N = P at HL9 HPB HPP KP
  have hk : 2 ≤ 100 := by decide
  generalize hkk : 0 + 1 + 1 = k at HS2
  have hk2 : k ≤ 100 := by omega
  clear hkk hk
  go_wp2_with fail
  refine (KP.out _).mono ?_
  rintro e w3 ⟨a3, n3, c3, rfl, ho3, hb3⟩
  have hn3 := owns_length ho3
  have hn3m : n3 ≤ 100 := by have := HL9.out; omega
  have hn3p : 0 < n3 := by have := HPP.out; omega
  have hsz3 := hb3.size
  have HO3 := Lib.hid (owns_mono ho3 (Nat.le_trans (Nat.succ_le_of_lt hlt1) hsz2))
  have HS3 := Lib.hid (HS2.out.below hb3)
  have HB3 := Lib.hid (below_then HB2.out hb3)
  clear hn3 ho3 hb3 HL9 HPP
  go_wp2_with fail
  refine (l1Next_any _ a n c xs k 3 (by decide) (by decide) (by omega) _ HS3.out).mono ?_
  rintro e w4 ⟨m, rfl, hm, hs4, hg4⟩
  have hm3 := hm (by decide)
  have hmn : m ≤ 3 := by omega
  have hsz4 := hg4.size
  have hrows : ∀ g, (Value.slice a3 n3 c3).ownBlock = some g → w.heap.size < g := fun g e => by have := (HO3.out.lt g e).1; omega
  have HO4 := Lib.hid (HO3.out.kept hg4 (by
    cases hv : (Value.slice a3 n3 c3).ownBlock with
    | none => exact .inl rfl
    | some g => exact .inr (fun e => by have := hrows g hv; cases e; omega)))
  have HS4 := Lib.hid hs4
  have HB4 := Lib.hid (below_step HB3.out hg4 (Nat.le_refl _))
  clear hm hs4 hg4
  go_wp2_with fail
  refine (l1Some2_any _ a n c xs (k + 1) m (by omega) (by omega) _ HS4.out).mono ?_
  rintro e w5 ⟨g5, c5, zs, rfl, ho5, hs5, hg5, hzb⟩
  have hn5 := owns_length ho5
  have hsz5 := hg5.size
  have HO5 := Lib.hid ho5
  have HP5 := Lib.hid (HO4.out.kept hg5 (by
    cases hv : (Value.slice a3 n3 c3).ownBlock with
    | none => exact .inl rfl
    | some g => exact .inr (fun e => by have := hrows g hv; cases e; omega)))
  have HS5 := Lib.hid hs5
  have HB5 := Lib.hid (below_step HB4.out hg5 (Nat.le_refl _))
  have HZB := Lib.hid (mem_app HPB.out hzb)
  have HN5 := Lib.hid hn5
  clear ho5 hs5 hg5 hzb hn5 HO3 HO4
  go_wp2_with (at_builtin; refine wpList_append_own _ rfl _ _ 22 rfl (w.heap.size + 1) 5 i0 (.int .u8 0) 1 1 Tryd.underlying22 hi hz0 hz1 hz2 rfl (by decide) _ _ _ rfl HP5.out ⟨g5, 0, none⟩ m c5 (zs.map (Value.int .u8)) rfl ?c1 ?c2 ?c3 ?c4 ?c5 ?c6 ?_)
  case c1 => have := HN5.out; simp; omega
  case c2 => exact HO5.out.cells (g := g5) rfl
  case c3 => exact ints_oneCell _ _
  case c4 => unfold maxLen; omega
  case c5 => omega
  case c6 => omega
  intro v' w6 hown' hgrow _
  obtain ⟨L, hL⟩ : ∃ L, n3 + m = L + 1 := ⟨n3 + m - 1, by omega⟩
  have hLm : L ≤ 103 := by omega
  rw [hL, ← List.map_append] at hown'
  obtain ⟨g, cap, rfl⟩ := ownsRow_succ hown'
  have hsz6 := hgrow.size
  have HS6 := Lib.hid (HS5.out.grown hgrow (fun j e => by have := (HP5.out.lt j e).1; omega))
  have HB6 := Lib.hid (HB5.out.grown hgrow HB5.out.size (fun j e => by have := (HP5.out.lt j e).1; omega))
  have HO6 := Lib.hid hown'
  clear hown' hgrow HO5 HP5 hL HN5 hrows
  generalize P ++ zs = Y at HZB HO6
  go_wp2_with fail
  refine (l1Next_any _ a n c xs (k + 1 + m) 5 (by decide) (by decide) (by omega) _ HS6.out).mono ?_
  rintro e w7 ⟨r, rfl, hr, hs7, hg7⟩
  have hr5 := hr (by decide)
  have hsz7 := hg7.size
  have HS7 := Lib.hid hs7
  have HB7 := Lib.hid (below_step HB6.out hg7 (Nat.le_refl _))
  have HO7 := Lib.hid (HO6.out.kept hg7 (own_ne HO6.out (by omega)))
  clear hr hs7 hg7
  have hlenY := owns_length HO7.out
  have HLY := Lib.hid hlenY
  clear hlenY
  have hcap : L + 1 ≤ cap := by
    rcases HO7.out.2 with ⟨hv, h0⟩ | ⟨g', cap', cur, hv, _, _, hnc, _⟩
    · omega
    · simp only [Value.slice.injEq] at hv
      obtain ⟨_, _, rfl⟩ := hv
      exact hnc
  by_cases r0 : r = 0
  · subst r0
    go_wp2_with fail
    refine (l1Next_any _ a n c xs (k + 1 + m + 1) ((L : Int) + 1) (by omega) (by omega) (by omega) _ HS7.out).mono ?_
    rintro e w8 ⟨q, rfl, hq, hs8, hg8⟩
    have hqL := hq (by omega)
    have hqn : q ≤ L + 1 := by omega
    have HB8 := Lib.hid (below_step HB7.out hg8 (Nat.le_refl _))
    have HR8 := Lib.hid ((Row.of_owns (HO7.out.kept hg8 (own_ne HO7.out (by omega)))).upto q hqn)
    have hqc : (q : Int) ≤ (cap : Int) := by omega
    clear hq hs8 hg8
    go_wp2
    go_ret
    exact ⟨_, q, cap, Y.take q, rfl, HR8.out, by have := HLY.out; simp; omega, by omega, fun y hy => HZB.out y (List.mem_of_mem_take hy), HB8.out⟩
  · by_cases r1 : r = 1
    · subst r1
      go_wp2_with fail
      refine (l1Next_any _ a n c xs (k + 1 + m + 1) ((L : Int) + 1) (by omega) (by omega) (by omega) _ HS7.out).mono ?_
      rintro e w8 ⟨q, rfl, hq, hs8, hg8⟩
      have hqL := hq (by omega)
      have hqn : q < L + 1 := by omega
      have hsz8 := hg8.size
      have HS8 := Lib.hid hs8
      have HB8 := Lib.hid (below_step HB7.out hg8 (Nat.le_refl _))
      have HO8 := Lib.hid (HO7.out.kept hg8 (own_ne HO7.out (by omega)))
      clear hq hs8 hg8
      go_wp2_with fail
      refine (l1Pick_any _ a n c xs (k + 1 + m + 1 + 1) w8.heap.size 3 _ rfl (by decide) (by decide) (by omega) _ (HS8.out.alloc _) (lit_row w8 _ .i64 [0, 128, 255] 3 rfl (by decide)) (by omega)).mono ?_
      rintro e w9 ⟨z, rfl, hz, hs9, hg9⟩
      have hzz : 0 ≤ z ∧ z ≤ 255 := by simp at hz; omega
      obtain ⟨hz0', hz1'⟩ := hzz
      have HB9 := Lib.hid (below_step (HB8.out.alloc HB8.out.size _) hg9 (Nat.le_refl _))
      have HO9 := Lib.hid ((HO8.out.alloc _).kept hg9 (own_ne HO8.out (by omega)))
      clear hz hs9 hg9
      have c1 := HO9.out.cellAt q (by omega)
      have c2 : (Y.map (Value.int .u8))[q]? = some (.int .u8 (Y.getD q 0)) := by
        have hq' : q < Y.length := by have := HLY.out; omega
        rw [List.getElem?_map, List.getD_eq_getElem?_getD, List.getElem?_eq_getElem hq']
        rfl
      rw [c2] at c1
      have c3 := HO9.out.frozenAt q
      have hst := (HO9.out.stored q (.int .u8 z)).1
      rw [← List.map_set] at hst
      have HST := Lib.hid hst
      have HZZ := Lib.hid (mem_set (i := q) HZB.out ⟨hz0', hz1'⟩)
      have hgb := (HO9.out.lt g rfl).1
      clear c2 hst
      generalize Y.getD q 0 = old at c1
      go_wp2
      go_ret
      exact ⟨_, L + 1, cap, Y.set q z, rfl, Row.of_owns HST.out, by have := HLY.out; simp; omega, by omega, HZZ.out, HB9.out.setCell (p := ⟨g, q, none⟩) (Nat.le_of_succ_le hgb) _⟩
    · have q0 : ((r : Int) == 0) = false := by rw [beq_eq_false_iff_ne]; omega
      have q1 : ((r : Int) == 1) = false := by rw [beq_eq_false_iff_ne]; omega
      by_cases r2 : r = 2
      · subst r2
        go_wp2_with (at_builtin; refine wpList_append_own _ rfl _ _ 22 rfl w7.heap.size 5 i0 (.int .u8 0) 1 1 Tryd.underlying22 hi hz0 hz1 hz2 rfl (by decide) _ _ _ rfl (lit_owns w7 5 .u8 [255, 255, 255, 255, 255, 255, 255, 255] 8 rfl (by decide)) ⟨g, 0, none⟩ (L + 1) cap (Y.map (Value.int .u8)) rfl ?d1 ?d2 ?d3 ?d4 ?d5 ?d6 ?_)
        case d1 => have := HLY.out; simp; omega
        case d2 => exact (HO7.out.alloc _).cells (g := g) rfl
        case d3 => exact ints_oneCell _ _
        case d4 => unfold maxLen; omega
        case d5 => omega
        case d6 => simp
        intro v2 w8 hown2 hgrow2 _
        have hown4 := hown2
        rw [show 8 + (L + 1) = (8 + L) + 1 by omega] at hown4
        obtain ⟨a2, c2, hv2⟩ := ownsRow_succ hown4
        rw [show (8 + L) + 1 = 8 + (L + 1) by omega] at hv2
        subst hv2
        have hown3 : w8.ownsRow w7.heap.size 5 1 (.slice (some ⟨a2, 0, none⟩) (8 + (L + 1)) c2) (8 + (L + 1)) (([255, 255, 255, 255, 255, 255, 255, 255] ++ Y).map (Value.int .u8)) := by simpa using hown2
        have HR8 := Lib.hid (Row.of_owns hown3)
        have HL8 := Lib.hid (owns_length hown3)
        have HB8 := Lib.hid ((HB7.out.alloc HB7.out.size _).grown hgrow2 (by have := HB7.out.size; simp; omega) (fun j e => by simp [Value.ownBlock] at e; have := HB7.out.size; omega))
        clear hown2 hown3 hown4 hgrow2
        go_wp2
        go_ret
        exact ⟨a2, _, c2, _, rfl, HR8.out, HL8.out, by omega, mem_app (fun y hy => by simp at hy; omega) HZB.out, HB8.out⟩
      · have q2 : ((r : Int) == 2) = false := by rw [beq_eq_false_iff_ne]; omega
        go_wp2
        go_ret
        exact ⟨_, L + 1, cap, Y, rfl, Row.of_owns HO7.out, HLY.out, by omega, HZB.out, HB7.out⟩

set_option maxRecDepth 100000 in
set_option maxHeartbeats 3200000 in
theorem drawReadString_any (a : Option Addr) (n c : Nat) (xs : List Int) (w : World) (h : CodeAt w a n c xs) :
    Calls Tryd.prog 34 #[.slice a n c] w (TopBytes w 200) := by
  have HC := Lib.hid h
  clear h
  obtain ⟨i0, hi, hz0, hz1, hz2⟩ := info_parts u8Info
  go_enter Tryd.func34, Tryd.ntmps34
  go_wp2_with fail
  refine (source_any HC.out).mono ?_
  rintro e w1 ⟨rfl, hs, hb⟩
  have hlt1 := hs.lt
  have HS := Lib.hid hs
  have HB := Lib.hid hb
  clear hs hb
  go_wp2_with fail
  refine (l1DrawText_any _ a n c xs 0 9 (by decide) (by decide) _ HS.out).mono ?_
  rintro e w2 ⟨t, k, rfl, ht, hk, hs2, hg2⟩
  have hk2 : k ≤ 100 := by omega
  have hsz2 := hg2.size
  have HS2 := Lib.hid hs2
  have HB2 := Lib.hid (below_step HB.out hg2 (Nat.le_refl _))
  have HL9 : Hid ((vput t.size ++ bytesI t.data.toList).length ≤ 100) := Lib.hid (by rw [vput_small (by omega)]; unfold bytesI; simp; omega)
  have HPB : Hid (∀ y ∈ vput t.size ++ bytesI t.data.toList, 0 ≤ y ∧ y ≤ 255) := Lib.hid (mem_app (vput_bytes _ _ (Nat.le_refl _)) (bytesI_bytes _))
  have HPP : Hid (0 < (vput t.size ++ bytesI t.data.toList).length) := Lib.hid (by have := vput_pos t.size; simp; omega)
  have KP := Lib.hid (l2String_any t (by omega))
  clear hs2 hg2 hk
  generalize vput t.size ++ bytesI t.data.toList = P at HL9 HPB HPP KP
  go_wp2_with fail
  refine (KP.out _).mono ?_
  rintro e w3 ⟨a3, n3, c3, rfl, ho3, hb3⟩
  have hn3 := owns_length ho3
  have hn3m : n3 ≤ 100 := by have := HL9.out; omega
  have hn3p : 0 < n3 := by have := HPP.out; omega
  have hsz3 := hb3.size
  have HO3 := Lib.hid (owns_mono ho3 (Nat.le_trans (Nat.succ_le_of_lt hlt1) hsz2))
  have HS3 := Lib.hid (HS2.out.below hb3)
  have HB3 := Lib.hid (below_then HB2.out hb3)
  clear hn3 ho3 hb3 HL9 HPP
  go_wp2_with fail
  refine (l1Next_any _ a n c xs k 3 (by decide) (by decide) (by omega) _ HS3.out).mono ?_
  rintro e w4 ⟨m, rfl, hm, hs4, hg4⟩
  have hm3 := hm (by decide)
  have hmn : m ≤ 3 := by omega
  have hsz4 := hg4.size
  have hrows : ∀ g, (Value.slice a3 n3 c3).ownBlock = some g → w.heap.size < g := fun g e => by have := (HO3.out.lt g e).1; omega
  have HO4 := Lib.hid (HO3.out.kept hg4 (by
    cases hv : (Value.slice a3 n3 c3).ownBlock with
    | none => exact .inl rfl
    | some g => exact .inr (fun e => by have := hrows g hv; cases e; omega)))
  have HS4 := Lib.hid hs4
  have HB4 := Lib.hid (below_step HB3.out hg4 (Nat.le_refl _))
  clear hm hs4 hg4
  go_wp2_with fail
  refine (l1Some2_any _ a n c xs (k + 1) m (by omega) (by omega) _ HS4.out).mono ?_
  rintro e w5 ⟨g5, c5, zs, rfl, ho5, hs5, hg5, hzb⟩
  have hn5 := owns_length ho5
  have hsz5 := hg5.size
  have HO5 := Lib.hid ho5
  have HP5 := Lib.hid (HO4.out.kept hg5 (by
    cases hv : (Value.slice a3 n3 c3).ownBlock with
    | none => exact .inl rfl
    | some g => exact .inr (fun e => by have := hrows g hv; cases e; omega)))
  have HS5 := Lib.hid hs5
  have HB5 := Lib.hid (below_step HB4.out hg5 (Nat.le_refl _))
  have HZB := Lib.hid (mem_app HPB.out hzb)
  have HN5 := Lib.hid hn5
  clear ho5 hs5 hg5 hzb hn5 HO3 HO4
  go_wp2_with (at_builtin; refine wpList_append_own _ rfl _ _ 22 rfl (w.heap.size + 1) 5 i0 (.int .u8 0) 1 1 Tryd.underlying22 hi hz0 hz1 hz2 rfl (by decide) _ _ _ rfl HP5.out ⟨g5, 0, none⟩ m c5 (zs.map (Value.int .u8)) rfl ?c1 ?c2 ?c3 ?c4 ?c5 ?c6 ?_)
  case c1 => have := HN5.out; simp; omega
  case c2 => exact HO5.out.cells (g := g5) rfl
  case c3 => exact ints_oneCell _ _
  case c4 => unfold maxLen; omega
  case c5 => omega
  case c6 => omega
  intro v' w6 hown' hgrow _
  obtain ⟨L, hL⟩ : ∃ L, n3 + m = L + 1 := ⟨n3 + m - 1, by omega⟩
  have hLm : L ≤ 103 := by omega
  rw [hL, ← List.map_append] at hown'
  obtain ⟨g, cap, rfl⟩ := ownsRow_succ hown'
  have hsz6 := hgrow.size
  have HS6 := Lib.hid (HS5.out.grown hgrow (fun j e => by have := (HP5.out.lt j e).1; omega))
  have HB6 := Lib.hid (HB5.out.grown hgrow HB5.out.size (fun j e => by have := (HP5.out.lt j e).1; omega))
  have HO6 := Lib.hid hown'
  clear hown' hgrow HO5 HP5 hL HN5 hrows
  generalize P ++ zs = Y at HZB HO6
  go_wp2_with fail
  refine (l1Next_any _ a n c xs (k + 1 + m) 5 (by decide) (by decide) (by omega) _ HS6.out).mono ?_
  rintro e w7 ⟨r, rfl, hr, hs7, hg7⟩
  have hr5 := hr (by decide)
  have hsz7 := hg7.size
  have HS7 := Lib.hid hs7
  have HB7 := Lib.hid (below_step HB6.out hg7 (Nat.le_refl _))
  have HO7 := Lib.hid (HO6.out.kept hg7 (own_ne HO6.out (by omega)))
  clear hr hs7 hg7
  have hlenY := owns_length HO7.out
  have HLY := Lib.hid hlenY
  clear hlenY
  have hcap : L + 1 ≤ cap := by
    rcases HO7.out.2 with ⟨hv, h0⟩ | ⟨g', cap', cur, hv, _, _, hnc, _⟩
    · omega
    · simp only [Value.slice.injEq] at hv
      obtain ⟨_, _, rfl⟩ := hv
      exact hnc
  by_cases r0 : r = 0
  · subst r0
    go_wp2_with fail
    refine (l1Next_any _ a n c xs (k + 1 + m + 1) ((L : Int) + 1) (by omega) (by omega) (by omega) _ HS7.out).mono ?_
    rintro e w8 ⟨q, rfl, hq, hs8, hg8⟩
    have hqL := hq (by omega)
    have hqn : q ≤ L + 1 := by omega
    have HB8 := Lib.hid (below_step HB7.out hg8 (Nat.le_refl _))
    have HR8 := Lib.hid ((Row.of_owns (HO7.out.kept hg8 (own_ne HO7.out (by omega)))).upto q hqn)
    have hqc : (q : Int) ≤ (cap : Int) := by omega
    clear hq hs8 hg8
    go_wp2
    go_ret
    exact ⟨_, q, cap, Y.take q, rfl, HR8.out, by have := HLY.out; simp; omega, by omega, fun y hy => HZB.out y (List.mem_of_mem_take hy), HB8.out⟩
  · by_cases r1 : r = 1
    · subst r1
      go_wp2_with fail
      refine (l1Next_any _ a n c xs (k + 1 + m + 1) ((L : Int) + 1) (by omega) (by omega) (by omega) _ HS7.out).mono ?_
      rintro e w8 ⟨q, rfl, hq, hs8, hg8⟩
      have hqL := hq (by omega)
      have hqn : q < L + 1 := by omega
      have hsz8 := hg8.size
      have HS8 := Lib.hid hs8
      have HB8 := Lib.hid (below_step HB7.out hg8 (Nat.le_refl _))
      have HO8 := Lib.hid (HO7.out.kept hg8 (own_ne HO7.out (by omega)))
      clear hq hs8 hg8
      go_wp2_with fail
      refine (l1Pick_any _ a n c xs (k + 1 + m + 1 + 1) w8.heap.size 6 _ rfl (by decide) (by decide) (by omega) _ (HS8.out.alloc _) (lit_row w8 _ .i64 [0, 1, 5, 61, 128, 255] 6 rfl (by decide)) (by omega)).mono ?_
      rintro e w9 ⟨z, rfl, hz, hs9, hg9⟩
      have hzz : 0 ≤ z ∧ z ≤ 255 := by simp at hz; omega
      obtain ⟨hz0', hz1'⟩ := hzz
      have HB9 := Lib.hid (below_step (HB8.out.alloc HB8.out.size _) hg9 (Nat.le_refl _))
      have HO9 := Lib.hid ((HO8.out.alloc _).kept hg9 (own_ne HO8.out (by omega)))
      clear hz hs9 hg9
      have c1 := HO9.out.cellAt q (by omega)
      have c2 : (Y.map (Value.int .u8))[q]? = some (.int .u8 (Y.getD q 0)) := by
        have hq' : q < Y.length := by have := HLY.out; omega
        rw [List.getElem?_map, List.getD_eq_getElem?_getD, List.getElem?_eq_getElem hq']
        rfl
      rw [c2] at c1
      have c3 := HO9.out.frozenAt q
      have hst := (HO9.out.stored q (.int .u8 z)).1
      rw [← List.map_set] at hst
      have HST := Lib.hid hst
      have HZZ := Lib.hid (mem_set (i := q) HZB.out ⟨hz0', hz1'⟩)
      have hgb := (HO9.out.lt g rfl).1
      clear c2 hst
      generalize Y.getD q 0 = old at c1
      go_wp2
      go_ret
      exact ⟨_, L + 1, cap, Y.set q z, rfl, Row.of_owns HST.out, by have := HLY.out; simp; omega, by omega, HZZ.out, HB9.out.setCell (p := ⟨g, q, none⟩) (Nat.le_of_succ_le hgb) _⟩
    · have q0 : ((r : Int) == 0) = false := by rw [beq_eq_false_iff_ne]; omega
      have q1 : ((r : Int) == 1) = false := by rw [beq_eq_false_iff_ne]; omega
      go_wp2
      go_ret
      exact ⟨_, L + 1, cap, Y, rfl, Row.of_owns HO7.out, HLY.out, by omega, HZB.out, HB7.out⟩
end Go.Proofs.YtmgemchpclmknaaDoor
