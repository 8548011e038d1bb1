/- The laws' draws of elements. -/
import Derived.Test.YtjkmgpomcnplnaaGreatDoorGS2
import Derived.Test.YtjkmgpomcnplnaaGreatDoorGS0
namespace Go.Proofs.YtjkmgpomcnplnaaGreatDoor
open Go.ChangeShapes Go.WideShapes Go.ChangeAt Go.RowKit
set_option linter.unusedVariables false
def ElemDrawn (w : World) (b : Nat) (a : Option Addr) (n c : Nat) (xs : List Int) (k : Nat) (d : Int) (en : Ending) (w' : World) : Prop :=
  ∃ (sp nm : ByteArray) (x : Option Addr) (m q : Nat) (es : List At) (k' : Nat), en = .returned (.agg #[.int .i64 d, .string ⟨#[]⟩, .string sp, .string nm, .slice x m q]) ∧ sp.size ≤ 60 ∧ nm.size ≤ 60 ∧ OwnAts w' w.heap.size w'.heap.size x m q es ∧ m ≤ 5 ∧ ShortAts es ∧ (x = none → q = 0) ∧ w'.ownsRow w.heap.size 52 2 (.slice x m q) m (flatA es) ∧ k' ≤ k + 60 ∧ Src w' b a n c xs k' ∧ w.grownBy w' (some b)
theorem grown_fill {w w1 : World} {b x : Nat} (h : w.grownBy w1 (some b)) (hx : w.heap.size ≤ x) (u0 u1 u2 u3 u4 : Value) : w.grownBy (((((w1.setCell ⟨x, 0, none⟩ u0).setCell ⟨x, 1, none⟩ u1).setCell ⟨x, 2, none⟩ u2).setCell ⟨x, 3, none⟩ u3).setCell ⟨x, 4, none⟩ u4) (some b) := by
  have key : ∀ (W : World) (i : Nat) (u : Value), w.grownBy W (some b) → w.grownBy (W.setCell ⟨x, i, none⟩ u) (some b) := fun W i u hW => grown_mix hW (grown_set W ⟨x, i, none⟩ u) (fun g hg => by cases hg; exact hx)
  exact key _ _ _ (key _ _ _ (key _ _ _ (key _ _ _ (key _ _ _ h))))
theorem Src.fill {w : World} {b x : Nat} {a : Option Addr} {n c : Nat} {xs : List Int} {k : Nat} (h : Src w b a n c xs k) (hx : b < x) (u0 u1 u2 u3 u4 : Value) : Src (((((w.setCell ⟨x, 0, none⟩ u0).setCell ⟨x, 1, none⟩ u1).setCell ⟨x, 2, none⟩ u2).setCell ⟨x, 3, none⟩ u3).setCell ⟨x, 4, none⟩ u4) b a n c xs k := by
  have key : ∀ (W : World) (i : Nat) (u : Value), Src W b a n c xs k → Src (W.setCell ⟨x, i, none⟩ u) b a n c xs k := fun W i u hW => hW.grown (grown_set W ⟨x, i, none⟩ u) (fun j e => by cases e; exact hx)
  exact key _ _ _ (key _ _ _ (key _ _ _ (key _ _ _ (key _ _ _ h))))
theorem wordsG {w w' : World} {nb k : Nat} {f : Nat → ByteArray} {row : Option Nat} (h : ∀ r, r < k → w.cell? ⟨nb, r, none⟩ = some (.string (f r))) (hg : w.grownBy w' row) (hne : some nb ≠ row) : ∀ r, r < k → w'.cell? ⟨nb, r, none⟩ = some (.string (f r)) := fun r hr => hg.cell (h r hr) hne
set_option maxRecDepth 100000 in
set_option maxHeartbeats 6400000 in
theorem l4DrawElement_any (b : Nat) (a : Option Addr) (n c : Nat) (xs : List Int) (k : Nat) (d : Int) (hk : k + 200 < 1000000) (w : World) (h : Src w b a n c xs k) :
    Calls Tryz.prog 100 #[.pointer (some ⟨b, 0, none⟩), .int .i64 d] w (ElemDrawn w b a n c xs k d) := by
  unfold ElemDrawn
  have hblt := h.lt
  have HS0 := Lib.hid h
  have KN := Lib.hid (fun (k : Nat) (hk : k < 1000000) (W : World) (h : Src W b a n c xs k) => l1Next_any b a n c xs k 5 (by decide) (by decide) hk W h)
  unfold NextRes at KN
  have KA := Lib.hid (fun (k : Nat) (hk : k + 100 < 1000000) (W : World) (h : Src W b a n c xs k) => l4DrawAttrs_any b a n c xs k hk W h)
  unfold AttsDrawn at KA
  clear h
  go_enter Tryz.func100, Tryz.ntmps100
  go_wp2
  generalize hW : ((w.alloc (.cells #[.int .i64 0, .string ⟨#[]⟩, .string ⟨#[]⟩, .string ⟨#[]⟩, .slice none 0 0] 54)).alloc (.cells #[.string ⟨#[97]⟩, .string ⟨#[98]⟩, .string ⟨#[105, 116, 101, 109]⟩, .string ⟨#[120, 45, 121]⟩, .string ⟨#[113, 46, 49]⟩] 9)).alloc _ = W1
  obtain ⟨f, hf, hfs⟩ : ∃ f, WordsAt W1 (w.heap.size + 1) 5 f ∧ ∀ r, r < 5 → (f r).size ≤ 60 := by
    have hb : Below ((w.alloc (.cells #[.int .i64 0, .string ⟨#[]⟩, .string ⟨#[]⟩, .string ⟨#[]⟩, .slice none 0 0] 54)).alloc (.cells #[.string ⟨#[97]⟩, .string ⟨#[98]⟩, .string ⟨#[105, 116, 101, 109]⟩, .string ⟨#[120, 45, 121]⟩, .string ⟨#[113, 46, 49]⟩] 9)).heap.size ((w.alloc (.cells #[.int .i64 0, .string ⟨#[]⟩, .string ⟨#[]⟩, .string ⟨#[]⟩, .slice none 0 0] 54)).alloc (.cells #[.string ⟨#[97]⟩, .string ⟨#[98]⟩, .string ⟨#[105, 116, 101, 109]⟩, .string ⟨#[120, 45, 121]⟩, .string ⟨#[113, 46, 49]⟩] 9)) W1 := by rw [← hW]; exact below1 _ _
    have h := words_at hb 60 5 (by decide +kernel)
    have e : (w.alloc (.cells #[.int .i64 0, .string ⟨#[]⟩, .string ⟨#[]⟩, .string ⟨#[]⟩, .slice none 0 0] 54)).heap.size = w.heap.size + 1 := by simp
    rw [e] at h
    exact h
  obtain ⟨g, hg, hgs⟩ : ∃ g, WordsAt W1 (w.heap.size + 2) 5 g ∧ ∀ r, r < 5 → (g r).size ≤ 60 := by
    have hb : Below (((w.alloc (.cells #[.int .i64 0, .string ⟨#[]⟩, .string ⟨#[]⟩, .string ⟨#[]⟩, .slice none 0 0] 54)).alloc (.cells #[.string ⟨#[97]⟩, .string ⟨#[98]⟩, .string ⟨#[105, 116, 101, 109]⟩, .string ⟨#[120, 45, 121]⟩, .string ⟨#[113, 46, 49]⟩] 9)).alloc (.cells #[.string ⟨#[]⟩, .string ⟨#[117, 114, 110, 58, 97]⟩, .string ⟨#[117, 114, 110, 58, 98]⟩, .string ⟨#[117, 38, 118]⟩, .string ⟨#[117, 114, 110, 58, 97]⟩] 9)).heap.size (((w.alloc (.cells #[.int .i64 0, .string ⟨#[]⟩, .string ⟨#[]⟩, .string ⟨#[]⟩, .slice none 0 0] 54)).alloc (.cells #[.string ⟨#[97]⟩, .string ⟨#[98]⟩, .string ⟨#[105, 116, 101, 109]⟩, .string ⟨#[120, 45, 121]⟩, .string ⟨#[113, 46, 49]⟩] 9)).alloc (.cells #[.string ⟨#[]⟩, .string ⟨#[117, 114, 110, 58, 97]⟩, .string ⟨#[117, 114, 110, 58, 98]⟩, .string ⟨#[117, 38, 118]⟩, .string ⟨#[117, 114, 110, 58, 97]⟩] 9)) W1 := by rw [← hW]; exact Below.refl _ _
    have h := words_at hb 60 5 (by decide +kernel)
    have e : ((w.alloc (.cells #[.int .i64 0, .string ⟨#[]⟩, .string ⟨#[]⟩, .string ⟨#[]⟩, .slice none 0 0] 54)).alloc (.cells #[.string ⟨#[97]⟩, .string ⟨#[98]⟩, .string ⟨#[105, 116, 101, 109]⟩, .string ⟨#[120, 45, 121]⟩, .string ⟨#[113, 46, 49]⟩] 9)).heap.size = w.heap.size + 2 := by simp
    rw [e] at h
    exact h
  have hb1 : Below w.heap.size w W1 := by rw [← hW]; exact (below2 w _ _).trans ((below1 _ _).mono (by simp; omega))
  have X1 : X5 W1 w.heap.size (.int .i64 0) (.string ⟨#[]⟩) (.string ⟨#[]⟩) (.string ⟨#[]⟩) (.slice none 0 0) := by
    rw [← hW]
    exact ((X5.new w 54 _ _ _ _ _).grown (World.grownBy_alloc _ _ none) (by simp)).grown (World.grownBy_alloc _ _ none) (by simp)
  have hz1 : w.heap.size + 3 = W1.heap.size := by rw [← hW]; simp
  have HB1 := Lib.hid hb1
  have HX1 := Lib.hid X1
  have HSD := Lib.hid ((HS0.out.below hb1).below (Below.refl W1.heap.size W1).drew)
  have HFS := Lib.hid hfs
  have HGS := Lib.hid hgs
  have hS1 : (∀ r, r < 5 → W1.drew.cell? ⟨w.heap.size + 1, r, none⟩ = some (.string (f r))) ∧ (∀ r, r < 5 → W1.drew.cell? ⟨w.heap.size + 2, r, none⟩ = some (.string (g r))) := ⟨hf, hg⟩
  have hn1 : some (w.heap.size + 1) ≠ some b := by simp; omega
  have hn2 : some (w.heap.size + 2) ≠ some b := by simp; omega
  clear hW hf hg hfs hgs hb1 X1
  have HSW := Lib.hid hS1
  clear hS1
  first | (go_region_with (first
      | (go_at_call 36; (with_reducible refine (KN.out k (by omega) _ HSD.out).mono ?_); rintro e w5 ⟨r5, rfl, hr5, hs5, hg5⟩; have hr5 := hr5 (by decide); have hr5n : r5 < 5 := (by omega); have HS5 := Lib.hid (And.intro (wordsG HSW.out.1 hg5 hn1) (wordsG HSW.out.2 hg5 hn2)); have e5 := HS5.out.2 r5 hr5n)
      | (go_at_call 36; (with_reducible refine (KN.out (k + 1) (by omega) _ (by assumption)).mono ?_); rintro e w6 ⟨r6, rfl, hr6, hs6, hg6⟩; have hr6 := hr6 (by decide); have hr6n : r6 < 5 := (by omega); have HS6 := Lib.hid (And.intro (wordsG HS5.out.1 hg6 hn1) (wordsG HS5.out.2 hg6 hn2)); have e6 := HS6.out.2 r5 hr5n; have e6' := HS6.out.1 r6 hr6n)
      | (go_at_call 123; (with_reducible refine (KA.out (k + 1 + 1) (by omega) _ (by assumption)).mono ?_); rintro e w7 ⟨x7, m7, q7, es7, k7, rfl, hrow7, hm7, hlen7, hsh7, hnil7, hk7, hs7, hg7⟩; have e7 := (wordsG HS6.out.2 hg7 hn2) r5 hr5n; have e7' := (wordsG HS6.out.1 hg7 hn1) r6 hr6n; have hX7 := ((HX1.out.grown (grownDrew hg5) (by simp; omega)).grown hg6 (by simp; omega)).grown hg7 (by simp; omega); have y0 := hX7.c0; have y1 := hX7.c1; have y2 := hX7.c2; have y3 := hX7.c3; have y4 := hX7.c4; have yf0 := hX7.fz 0 (by decide); have yf1 := hX7.fz 1 (by decide); have yf2 := hX7.fz 2 (by decide); have yf3 := hX7.fz 3 (by decide); have yf4 := hX7.fz 4 (by decide)))) | fail
  all_goals
    have hgs5 := HGS.out r5 hr5n
    have hfs6 := HFS.out r6 hr6n
    have hw5 : W1.heap.size ≤ w5.heap.size := hg5.size
    have hw6 : w5.heap.size ≤ w6.heap.size := hg6.size
    have Z := hX7.fill (.int .i64 d) (.string ⟨#[]⟩) (.string (g r5)) (.string (f r6)) (.slice x7 m7 q7)
    have HRW := Lib.hid (owns_fill (owns_mono hrow7 (show w.heap.size ≤ w6.heap.size by omega)) w.heap.size (fun e => by have := (hrow7.lt _ e).1; omega) (.int .i64 d) (.string ⟨#[]⟩) (.string (g r5)) (.string (f r6)) (.slice x7 m7 q7))
    have HOW := Lib.hid (ownAts_of HRW.out (by omega) (fun i => by have := hsh7 i; omega))
    have HSF := Lib.hid (hs7.fill hblt (.int .i64 d) (.string ⟨#[]⟩) (.string (g r5)) (.string (f r6)) (.slice x7 m7 q7))
    have HGF := Lib.hid (grown_fill (grown_trans_row (grown_trans_row (grown_trans_row (grown_of_below HB1.out (some b)) (grownDrew hg5)) hg6) hg7) (Nat.le_refl _) (.int .i64 d) (.string ⟨#[]⟩) (.string (g r5)) (.string (f r6)) (.slice x7 m7 q7))
    have HSH := Lib.hid hsh7
    have HNL := Lib.hid hnil7
    generalize g r5 = sp at *
    generalize f r6 = nm at *
    have z0 := Z.c0
    have z1 := Z.c1
    have z2 := Z.c2
    have z3 := Z.c3
    have z4 := Z.c4
    clear Z e5 e6 e6' e7 e7' hrow7 hsh7 hnil7 hs5 hs6 hs7 hX7 hlen7
    go_wp2
    exact bodyPost_ret (v := .agg #[.int .i64 d, .string ⟨#[]⟩, .string sp, .string nm, .slice x7 m7 q7]) (by simp [results, Tryz.results100, go_sem, z0, z1, z2, z3, z4]) rfl
      ⟨sp, nm, x7, m7, q7, es7, k7, rfl, hgs5, hfs6, HOW.out, hm7, HSH.out, HNL.out, HRW.out, by omega, HSF.out, HGF.out⟩
def minI (x y : Int) : Int := if x < y then x else y
theorem l1Min_any (x y : Int) (w : World) : Calls Tryz.prog 95 #[.int .i64 x, .int .i64 y] w fun e w' => e = .returned (.int .i64 (minI x y)) ∧ w' = w := by
  by_cases h : x < y
  · have e : minI x y = x := by unfold minI; rw [if_pos h]
    rw [e]
    clear e
    go_enter Tryz.func95, Tryz.ntmps95
    go_wp2
    go_ret
    exact ⟨rfl, rfl⟩
  · have e : minI x y = y := by unfold minI; rw [if_neg h]
    rw [e]
    clear e
    go_enter Tryz.func95, Tryz.ntmps95
    go_wp2
    go_ret
    exact ⟨rfl, rfl⟩
def maxI (x y : Int) : Int := if y < x then x else y
theorem l1Max_any (x y : Int) (w : World) : Calls Tryz.prog 101 #[.int .i64 x, .int .i64 y] w fun e w' => e = .returned (.int .i64 (maxI x y)) ∧ w' = w := by
  by_cases h : y < x
  · have e : maxI x y = x := by unfold maxI; rw [if_pos h]
    rw [e]
    clear e
    go_enter Tryz.func101, Tryz.ntmps101
    go_wp2
    go_ret
    exact ⟨rfl, rfl⟩
  · have e : maxI x y = y := by unfold maxI; rw [if_neg h]
    rw [e]
    clear e
    go_enter Tryz.func101, Tryz.ntmps101
    go_wp2
    go_ret
    exact ⟨rfl, rfl⟩
end Go.Proofs.YtjkmgpomcnplnaaGreatDoor
