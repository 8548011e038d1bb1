/- The laws' draws of trees. -/
import Derived.Test.YtjkmgpomcnplnaaGreatDoorGS1
import Derived.Test.YtjkmgpomcnplnaaGreatDoorGS2
import Derived.Test.YtjkmgpomcnplnaaGreatDoorGS3
namespace Go.Proofs.YtjkmgpomcnplnaaGreatDoor
open Go.ChangeShapes Go.WideShapes Go.ChangeAt Go.RowKit
set_option linter.unusedVariables false
structure DrawnIt (x : It) : Prop where
  depth : 0 ≤ x.depth ∧ x.depth ≤ 6
  sizes : x.text.size ≤ 60 ∧ x.space.size ≤ 60 ∧ x.name.size ≤ 60
  few : x.attrs.length ≤ 5
  short : ShortAts x.attrs
theorem dIt_drawn : DrawnIt dIt := ⟨by simp [dIt], by simp [dIt], by simp [dIt], fun i => by simp [dIt, dAt]⟩
theorem drawn_snoc {l : List It} {x : It} (h : ∀ i, DrawnIt (l.getD i dIt)) (hx : DrawnIt x) : ∀ i, DrawnIt ((l ++ [x]).getD i dIt) := by
  intro i
  by_cases hi : i < l.length
  · have e : (l ++ [x]).getD i dIt = l.getD i dIt := by rw [List.getD_eq_getElem?_getD, List.getElem?_append_left hi, ← List.getD_eq_getElem?_getD]
    rw [e]
    exact h i
  · by_cases h2 : i = l.length
    · subst h2
      have e : (l ++ [x]).getD l.length dIt = x := by rw [List.getD_eq_getElem?_getD, List.getElem?_append_right (Nat.le_refl _)]; simp
      rw [e]
      exact hx
    · have e : (l ++ [x]).getD i dIt = dIt := by rw [List.getD_eq_getElem?_getD, List.getElem?_eq_none (by simp; omega)]; rfl
      rw [e]
      exact dIt_drawn
theorem drawn_sizes {l : List It} (h : ∀ i, DrawnIt (l.getD i dIt)) (n : Nat) : ∀ i, i < n → (-9223372036854775808 ≤ (l.getD i dIt).depth ∧ (l.getD i dIt).depth ≤ 9223372036854775807) ∧ ((l.getD i dIt).text.size ≤ 9223372036854775807 ∧ (l.getD i dIt).space.size ≤ 9223372036854775807 ∧ (l.getD i dIt).name.size ≤ 9223372036854775807) := by
  intro i _
  have := h i
  exact ⟨⟨by have := this.depth; omega, by have := this.depth; omega⟩, by have := this.sizes; omega, by have := this.sizes; omega, by have := this.sizes; omega⟩
theorem noAts0 (w : World) (lo hi : Nat) : OwnAts w lo hi none 0 0 [] := ⟨⟨rfl, by omega, fun i => by simp [dAt], .inl rfl⟩, .inl rfl⟩
theorem growOne {w : World} {B : Nat} {x : It} {a : Option Addr} {m c : Nat} (ha : OwnAts w B w.heap.size a m c x.attrs) (hnil : a = none → c = 0) (hB : B ≤ w.heap.size) :
    GrowIts (w.alloc (.cells #[.int .i64 x.depth, .string x.text, .string x.space, .string x.name, .slice a m c] 54)) B (.slice (some ⟨w.heap.size, 0, none⟩) 1 1) 1 [x] (fun _ => a) (fun _ => m) (fun _ => c) := by
  have hb := below1 w (.cells #[.int .i64 x.depth, .string x.text, .string x.space, .string x.name, .slice a m c] 54)
  have h1 := ha.only (Only.below (P := fun _ => False) hb) fun _ _ _ h => h
  refine ⟨?_, fun i hi => ?_, fun i hi y hy hne => ?_, fun i j hi hj hij => ?_⟩
  · have := World.ownsRow_lit (base := B) (e := 54) (size := 5) w #[.int .i64 x.depth, .string x.text, .string x.space, .string x.name, .slice a m c] 1 hB (by decide) (by simp)
    have e : flatI [x] (fun _ => a) (fun _ => m) (fun _ => c) = [.int .i64 x.depth, .string x.text, .string x.space, .string x.name, .slice a m c] := by
      simp [flatI, cellI, List.range, List.range.loop]
    rw [e]
    exact this
  · simp only [List.length_cons, List.length_nil] at hi
    obtain rfl : i = 0 := by omega
    exact ⟨⟨h1.ats, h1.own.imp id fun ⟨b5, e5, g1, g2, g3⟩ => ⟨b5, e5, g1, by have := hb.size; omega, g3⟩⟩, hnil⟩
  · have := ha.in hy hne
    intro e
    simp only [Value.ownBlock, Option.some.injEq] at e
    omega
  · simp only [List.length_cons, List.length_nil] at hi hj
    omega
structure GrowR (w : World) (B : Nat) (v : Value) (n : Nat) (l : List It) (A : Nat → Option Addr) (N C : Nat → Nat) : Prop where
  g : GrowIts w B v n l A N C
  rows : ∀ i, i < l.length → w.ownsRow B 52 2 (.slice (A i) (N i) (C i)) (N i) (flatA (l.getD i dIt).attrs)
  off : ∀ i, i < l.length → ∀ j, (Value.slice (A i) (N i) (C i)).ownBlock = some j → v.ownBlock ≠ some j
  each : ∀ i j, i < l.length → j < l.length → i ≠ j → ∀ g, (Value.slice (A i) (N i) (C i)).ownBlock = some g → (Value.slice (A j) (N j) (C j)).ownBlock ≠ some g
theorem GrowR.row {w : World} {B : Nat} {v : Value} {n : Nat} {l : List It} {A : Nat → Option Addr} {N C : Nat → Nat} (h : GrowR w B v n l A N C) : w.ownsRow B 54 5 v n (flatI l A N C) := h.g.row
theorem GrowR.below {w w' : World} {B : Nat} {v : Value} {n : Nat} {l : List It} {A : Nat → Option Addr} {N C : Nat → Nat} (h : GrowR w B v n l A N C) (hb : Below w.heap.size w w') : GrowR w' B v n l A N C :=
  ⟨h.g.below hb, fun i hi => owns_below (h.rows i hi) hb, h.off, h.each⟩
theorem GrowR.far {w w' : World} {B b : Nat} {v : Value} {n : Nat} {l : List It} {A : Nat → Option Addr} {N C : Nat → Nat} (h : GrowR w B v n l A N C) (hg : w.grownBy w' (some b)) (hb : b < B) : GrowR w' B v n l A N C :=
  ⟨h.g.far hg hb, fun i hi => row_grown (h.rows i hi) hg hb, h.off, h.each⟩
theorem GrowR.own {w : World} {B : Nat} {a : Option Addr} {n c : Nat} {l : List It} {A : Nat → Option Addr} {N C : Nat → Nat} (h : GrowR w B (.slice a n c) n l A N C) (hn : n ≤ 1048576)
    (hit : ∀ i, i < n → (-9223372036854775808 ≤ (l.getD i dIt).depth ∧ (l.getD i dIt).depth ≤ 9223372036854775807) ∧ ((l.getD i dIt).text.size ≤ 9223372036854775807 ∧ (l.getD i dIt).space.size ≤ 9223372036854775807 ∧ (l.getD i dIt).name.size ≤ 9223372036854775807)) :
    OwnIts w B w.heap.size a n c l := h.g.own hn hit
theorem noRow0 (w : World) (B : Nat) : w.ownsRow B 52 2 (.slice none 0 0) 0 (flatA []) := World.ownsRow_nil w B _ 2
theorem owns_only {P : Nat → Prop} {w w' : World} {base : Nat} {e : TypeId} {size : Nat} {v : Value} {n : Nat} {xs : List Value} (h : w.ownsRow base e size v n xs) (ho : Only P w w') (hn : ∀ g, v.ownBlock = some g → ¬ P g) : w'.ownsRow base e size v n xs := by
  refine ⟨h.1, h.2.imp id fun ⟨g, cap, cur, hv, hb, hg, hr⟩ => ⟨g, cap, cur, hv, hb, ?_, hr⟩⟩
  have hlt := (h.lt g (by rw [hv]; rfl)).2
  rw [ho.block g hlt (hn g (by rw [hv]; rfl))]
  exact hg
theorem GrowR.snocO {w w0 w1 : World} {B : Nat} {P : Nat → Prop} {v v' : Value} {n : Nat} {l : List It} {A : Nat → Option Addr} {N C : Nat → Nat} {x : It} {a : Option Addr} {m c : Nat}
    (h : GrowR w B v n l A N C) (hw : Only P w w0) (hP : ∀ i, B ≤ i → ¬ P i) (ha : OwnAts w0 w.heap.size w0.heap.size a m c x.attrs) (har : w0.ownsRow w.heap.size 52 2 (.slice a m c) m (flatA x.attrs)) (hnil : a = none → c = 0) (hB : B ≤ w.heap.size)
    (hr : w1.ownsRow B 54 5 v' (n + 1) (flatI l A N C ++ [.int .i64 x.depth, .string x.text, .string x.space, .string x.name, .slice a m c])) (hg : w0.grownBy w1 v.ownBlock)
    (hv : v'.ownBlock = v.ownBlock ∨ ∃ g, v'.ownBlock = some g ∧ w0.heap.size ≤ g) :
    GrowR w1 B v' (n + 1) (l ++ [x]) (putA l.length a A) (putA l.length m N) (putA l.length c C) := by
  have hx : (l ++ [x]).getD l.length dIt = x := by simp [List.getD_eq_getElem?_getD]
  have hl : ∀ i, i < l.length → (l ++ [x]).getD i dIt = l.getD i dIt := fun i hi => by simp [List.getD_eq_getElem?_getD, List.getElem?_append_left hi]
  have hvlt : ∀ g, v.ownBlock = some g → g < w.heap.size := fun g hgb => (h.g.row.lt g hgb).2
  have hs0 := hw.size
  refine ⟨h.g.snocO hw hP ha hnil hB hr hg hv, fun i hi => ?_, fun i hi j hj => ?_, fun i j hi hj hij q hq => ?_⟩
  · rw [List.length_append] at hi
    simp only [List.length_cons, List.length_nil] at hi
    unfold putA
    by_cases e : i = l.length
    · subst e
      rw [if_pos rfl, if_pos rfl, if_pos rfl, hx]
      exact owns_mono (owns_only har (Only.grown hg) fun g hg1 hg2 => by have := (har.lt g hg1).1; have := hvlt g hg2.symm; omega) hB
    · rw [if_neg e, if_neg e, if_neg e, hl i (by omega)]
      exact owns_only (owns_only (h.rows i (by omega)) hw fun g hg1 => hP g ((h.rows i (by omega)).lt g hg1).1) (Only.grown hg) fun g hg1 hg2 => h.off i (by omega) g hg1 hg2.symm
  · rw [List.length_append] at hi
    simp only [List.length_cons, List.length_nil] at hi
    unfold putA at hj
    have key : j < w0.heap.size ∧ v.ownBlock ≠ some j := by
      by_cases e : i = l.length
      · rw [if_pos e, if_pos e, if_pos e] at hj
        have h1 := har.lt j hj
        exact ⟨h1.2, fun h2 => by have := hvlt j h2; omega⟩
      · rw [if_neg e, if_neg e, if_neg e] at hj
        have h1 := (h.rows i (by omega)).lt j hj
        exact ⟨by omega, h.off i (by omega) j hj⟩
    rcases hv with hv | ⟨g, hv, hg2⟩
    · rw [hv]; exact key.2
    · rw [hv]
      intro hq
      simp only [Option.some.injEq] at hq
      have := key.1
      omega
  · rw [List.length_append] at hi hj
    simp only [List.length_cons, List.length_nil] at hi hj
    unfold putA at hq ⊢
    by_cases e : i = l.length
    · rw [if_pos e, if_pos e, if_pos e] at hq
      rw [if_neg (by omega), if_neg (by omega), if_neg (by omega)]
      intro hq2
      have h1 := (har.lt q hq).1
      have h2 := ((h.rows j (by omega)).lt q hq2).2
      omega
    · rw [if_neg e, if_neg e, if_neg e] at hq
      by_cases e2 : j = l.length
      · rw [if_pos e2, if_pos e2, if_pos e2]
        intro hq2
        have h1 := (har.lt q hq2).1
        have h2 := ((h.rows i (by omega)).lt q hq).2
        omega
      · rw [if_neg e2, if_neg e2, if_neg e2]
        exact h.each i j (by omega) (by omega) hij q hq
theorem growOneR {w : World} {B : Nat} {x : It} {a : Option Addr} {m c : Nat} (ha : OwnAts w B w.heap.size a m c x.attrs) (har : w.ownsRow B 52 2 (.slice a m c) m (flatA x.attrs)) (hnil : a = none → c = 0) (hB : B ≤ w.heap.size) :
    GrowR (w.alloc (.cells #[.int .i64 x.depth, .string x.text, .string x.space, .string x.name, .slice a m c] 54)) B (.slice (some ⟨w.heap.size, 0, none⟩) 1 1) 1 [x] (fun _ => a) (fun _ => m) (fun _ => c) := by
  refine ⟨growOne ha hnil hB, fun i hi => ?_, fun i hi j hj hq => ?_, fun i j hi hj hij => ?_⟩
  · simp only [List.length_cons, List.length_nil] at hi
    obtain rfl : i = 0 := by omega
    exact owns_below har (below1 _ _)
  · have h1 := (har.lt j hj).2
    simp only [Value.ownBlock, Option.some.injEq] at hq
    omega
  · simp only [List.length_cons, List.length_nil] at hi hj
    omega
theorem maxI_bd {T : Int} (h : T ≤ 7) : 1 ≤ maxI T 1 ∧ maxI T 1 ≤ 7 := by unfold maxI; split <;> omega
theorem minI_bd {x : Int} (h : 1 ≤ x) : 1 ≤ minI x 6 ∧ minI x 6 ≤ 6 := by unfold minI; split <;> omega
def TreeDrawn (w : World) (b : Nat) (a : Option Addr) (n c : Nat) (xs : List Int) (k most : Nat) (en : Ending) (w' : World) : Prop :=
  ∃ (x : Option Addr) (m q : Nat) (l : List It) (A : Nat → Option Addr) (N C : Nat → Nat) (k' : Nat), en = .returned (.slice x m q) ∧ GrowR w' w.heap.size (.slice x m q) m l A N C ∧ 1 ≤ m ∧ m ≤ most ∧ (∀ i, DrawnIt (l.getD i dIt)) ∧ k' ≤ k + 1000 ∧ Src w' b a n c xs k' ∧ w.grownBy w' (some b)
set_option maxRecDepth 100000 in
set_option maxHeartbeats 12800000 in
theorem l4Draw_any (b : Nat) (a : Option Addr) (n c : Nat) (xs : List Int) (k most : Nat) (hm1 : 1 ≤ most) (hm : most ≤ 10) (hk : k + 2000 < 1000000) (w : World) (h : Src w b a n c xs k) :
    Calls Tryz.prog 67 #[.pointer (some ⟨b, 0, none⟩), .int .i64 most] w (TreeDrawn w b a n c xs k most) := by
  obtain ⟨i0, hi, hz0, hi1, hz2⟩ := info_parts itemInfo
  unfold TreeDrawn
  have hblt := h.lt
  have HS0 := Lib.hid h
  have KE := Lib.hid (fun (k : Nat) (d : Int) (hk : k + 200 < 1000000) (W : World) (h : Src W b a n c xs k) => l4DrawElement_any b a n c xs k d hk W h)
  unfold ElemDrawn at KE
  have KN := Lib.hid (fun (k : Nat) (m : Int) (hm0 : 1 ≤ m) (hm : m ≤ 1000000000) (hk : k < 1000000) (W : World) (h : Src W b a n c xs k) => l1Next_any b a n c xs k m hm0 hm hk W h)
  unfold NextRes at KN
  have KC := Lib.hid (fun (k : Nat) (hk : k < 1000000) (W : World) (h : Src W b a n c xs k) => l1Chance_any b a n c xs k 3 (by decide) (by decide) hk W h)
  have KD := Lib.hid (fun (k : Nat) (hk : k + 7 < 1000000) (W : World) (h : Src W b a n c xs k) => l1DrawText_any b a n c xs k 6 (by decide) (by omega) W h)
  unfold TextDrawn at KD
  simp only [show ((6 : Nat) : Int) = 6 from rfl] at KD
  clear h
  go_enter Tryz.func67, Tryz.ntmps67
  go_wp2_with fail
  refine (KE.out k 0 (by omega) _ HS0.out).mono ?_
  rintro e w1 ⟨sp, nm, x1, m1, q1, es1, k1, rfl, hsp, hnm, how1, hm5, hsh1, hnil1, hrw1, hk1, hs1, hg1⟩
  have hws1 : w.heap.size ≤ w1.heap.size := hg1.size
  have G1 := Lib.hid (growOneR (x := ⟨0, ⟨#[]⟩, sp, nm, es1⟩) how1 hrw1 hnil1 hws1)
  have D1 : Hid (∀ i, DrawnIt ([(⟨0, ⟨#[]⟩, sp, nm, es1⟩ : It)].getD i dIt)) := Lib.hid (by
    have := drawn_snoc (l := []) (x := ⟨0, ⟨#[]⟩, sp, nm, es1⟩) (fun i => by simpa using dIt_drawn) ⟨by simp, ⟨by show (ByteArray.empty).size ≤ 60; simp, hsp, hnm⟩, by have := how1.ats.len; simp only; omega, hsh1⟩
    simpa using this)
  have S1 := Lib.hid (hs1.below (below1 w1 (.cells #[.int .i64 0, .string ⟨#[]⟩, .string sp, .string nm, .slice x1 m1 q1] 54)))
  have E1 := Lib.hid (step_below hg1 (below1 w1 (.cells #[.int .i64 0, .string ⟨#[]⟩, .string sp, .string nm, .slice x1 m1 q1] 54)))
  clear how1 hsh1 hnil1 hrw1 hs1 hg1 hsp hnm
  go_wp2_with fail
  refine (KN.out k1 most (by omega) (by omega) (by omega) _ S1.out).mono ?_
  rintro e w2 ⟨r, rfl, hr, hs2, hg2⟩
  have hr := hr (by omega)
  have G2 := Lib.hid (G1.out.far hg2 hblt)
  have S2 := Lib.hid hs2
  have E2 := Lib.hid (grown_trans_row E1.out hg2)
  clear hs2 hg2
  go_wp2
  go_loopw [5, 6] (fun v i wr => ∃ (j m q : Nat) (x : Option Addr) (l : List It) (A : Nat → Option Addr) (N C : Nat → Nat) (k' : Nat), i = .int .i64 j ∧ v = .slice x (m + 1) q ∧ m + 1 + j ≤ most ∧ k' + 80 * j ≤ k + 1000 ∧ GrowR wr w.heap.size (.slice x (m + 1) q) (m + 1) l A N C ∧ (∀ i, DrawnIt (l.getD i dIt)) ∧ Src wr b a n c xs k' ∧ w.grownBy wr (some b)) (fun _ i _ => (intOf i).toNat)
  case atStart => exact ⟨r, 0, 1, _, _, _, _, _, k1 + 1, rfl, rfl, by omega, by omega, G2.out, D1.out, S2.out, E2.out⟩
  case round =>
    obtain ⟨j, m, q, x, l, A, N, C, k', rfl, rfl, hmj, hkj, hG, hD, hS, hE⟩ := hrel
    have GG := Lib.hid hG
    have DD := Lib.hid hD
    have SS := Lib.hid hS
    have EE := Lib.hid hE
    clear hG hD hS hE
    by_cases hj : 0 < j
    · have OI := Lib.hid (GG.out.own (by omega) (drawn_sizes DD.out (m + 1)))
      obtain ⟨bo, oo, rfl, hc⟩ := OI.out.its.row.resolve_left (by omega)
      have hit := hc m (by omega)
      have hdr := DD.out m
      generalize l.getD m dIt = y at hit hdr
      obtain ⟨yd, yt, ys, yn, ya⟩ := y
      obtain ⟨hyd, hys, hyf, hysh⟩ := hdr
      dsimp only at hyd hys hyf hysh
      have c0 := hit.c0
      have c1 := hit.c1
      have c2 := hit.c2
      have c3 := hit.c3
      obtain ⟨a4, n4, c4', c4, _⟩ := hit.c4
      dsimp only at c0 c1 c2 c3
      have hj1 : (0 : Int) < (j : Int) := by omega
      have hrsz : w.heap.size ≤ wr.heap.size := EE.out.size
      clear hit hc hysh
      cases he : yn.toList.isEmpty
      · go_wp2_with fail
        refine (l1Max_any (yd + 1) 1 _).mono ?_
        rintro e w3 ⟨rfl, rfl⟩
        have hmx := maxI_bd (T := yd + 1) (by omega)
        generalize maxI (yd + 1) 1 = mx at *
        have HB3 := Lib.hid (below1 wr (.cells #[.int .i64 yd, .string yt, .string ys, .string yn, .slice a4 n4 c4'] 54))
        go_wp2_with fail
        refine (KN.out k' mx hmx.1 (by omega) (by omega) _ (SS.out.below HB3.out)).mono ?_
        rintro e w4 ⟨r4, rfl, hr4, hs4, hg4⟩
        have hr4 := hr4 hmx.1
        have hr4b : (r4 : Int) < 8 := by omega
        have S4 := Lib.hid hs4
        have G4 := Lib.hid ((GG.out.below HB3.out).far hg4 hblt)
        have E4 := Lib.hid (grown_trans_row (step_below EE.out HB3.out) hg4)
        have X4 := Lib.hid ((X5.new wr 54 (.int .i64 yd) (.string yt) (.string ys) (.string yn) (.slice a4 n4 c4')).grown hg4 (by simp; omega))
        have q0 := X4.out.c0
        have q3 := X4.out.c3
        clear hs4 hg4 c0 c1 c2 c3 c4
        go_wp2_with fail
        refine (l1Min_any (1 + (r4 : Int)) 6 _).mono ?_
        rintro e w5 ⟨rfl, rfl⟩
        have hdm := minI_bd (x := 1 + (r4 : Int)) (by omega)
        generalize minI (1 + (r4 : Int)) 6 = dm at *
        clear hr4 hr4b
        by_cases hdt : yd + 1 < dm
        · by_cases ht1 : yd + 1 < 1
          · go_wp2
            go_roundw
            case rel => exact ⟨j - 1, m, q, _, l, A, N, C, k' + 1, vint (by omega), rfl, by omega, by omega, G4.out, DD.out, S4.out, E4.out⟩
            case measure => simp [intOf]; omega
          · have hd6 : yd + 1 ≤ 6 := by omega
            have hd1 : 1 ≤ yd + 1 := by omega
            go_wp2_with fail
            refine (KD.out (k' + 1) (by omega) _ S4.out).mono ?_
            rintro e w5 ⟨t, k5, rfl, ht, hk5, hs5, hg5⟩
            have G5 := Lib.hid (G4.out.far hg5 hblt)
            have S5 := Lib.hid hs5
            have E5 := Lib.hid (grown_trans_row E4.out hg5)
            have X5' := Lib.hid (X4.out.grown hg5 (by simp; omega))
            clear hs5 hg5
            go_wp2_with fail
            refine (KC.out k5 (by omega) _ S5.out).mono ?_
            rintro e w6 ⟨⟨ch, rfl⟩, hs6, hg6⟩
            have G6 := Lib.hid (G5.out.far hg6 hblt)
            have S6 := Lib.hid hs6
            have E6 := Lib.hid (grown_trans_row E5.out hg6)
            have X6 := X5'.out.grown hg6 (by simp; omega)
            have y0 := X6.c0
            have y3 := X6.c3
            have hwz6 : w.heap.size ≤ w6.heap.size := E6.out.size
            clear hs6 hg6 X6
            cases ch
            · go_wp2_with fail
              refine (KE.out (k5 + 1) (yd + 1) (by omega) _ S6.out).mono ?_
              rintro e w7 ⟨sp7, nm7, x7, m7, q7, es7, k7, rfl, hsp7, hnm7, how7, hm7, hsh7, hnil7, hrw7, hk7, hs7, hg7⟩
              have OR7 := Lib.hid (row_grown G6.out.row hg7 hblt)
              have hz7 : w6.heap.size ≤ w7.heap.size := hg7.size
              have HSH7 := Lib.hid hsh7
              have O7 := Lib.hid how7
              have NIL7 := Lib.hid hnil7
              have HRW7 := Lib.hid hrw7
              clear how7 hsh7 hnil7 hrw7
              go_wp2_with (at_builtin; refine wpList_append_own_at _ rfl _ _ 24 rfl w.heap.size 54 i0 (.agg #[.int .i64 0, .string ByteArray.empty, .string ByteArray.empty, .string ByteArray.empty, .slice none 0 0]) 5 80 Tryz.underlying24 hi hz0 hi1 hz2 rfl (by decide) _ (m + 1) _ rfl (OR7.out.alloc _) ⟨w7.heap.size, 0, none⟩ 1 1 [.int .i64 (yd + 1), .string ⟨#[]⟩, .string sp7, .string nm7, .slice x7 m7 q7] rfl rfl ?c1 ?c2 ?c3 ?c4 ?c5 ?_)
              case c1 => exact fun j u hj => itCells w7 _ _ _ _ _ j u hj
              case c2 => intro v hv; simp at hv; rcases hv with rfl | rfl | rfl | rfl | rfl <;> rfl
              case c3 => unfold maxLen; omega
              case c4 => omega
              case c5 => simp; omega
              intro v' w8 hown' hgr _ hat
              obtain ⟨a8, c8, rfl⟩ := owns_slice hown'
              have hb8 := below1 w7 (.cells #[.int .i64 (yd + 1), .string ⟨#[]⟩, .string sp7, .string nm7, .slice x7 m7 q7] 54)
              have hatt := O7.out.only (Only.below (P := fun _ => False) hb8) fun _ _ _ h => h
              have G8 := Lib.hid (G6.out.snocO (P := fun i => some i = some b) (x := ⟨(yd + 1), ⟨#[]⟩, sp7, nm7, es7⟩) ((Only.grown hg7).trans (Only.below hb8)) (fun i hi e => by simp only [Option.some.injEq] at e; omega)
                ⟨hatt.ats, hatt.own.imp id fun ⟨q, g1, g2, g3, g4⟩ => ⟨q, g1, g2, by have := hb8.size; omega, g4⟩⟩ (owns_below HRW7.out hb8) NIL7.out (by omega) hown' hgr (hat.imp id fun e => ⟨w7.heap.size + 1, by simpa using e, by simp⟩))
              have S8 := Lib.hid ((hs7.below hb8).grown hgr (fun g e => by have := (OR7.out.lt g e).1; omega))
              have E8 := Lib.hid (step_appended (grown_trans_row E6.out hg7) (Nat.le_refl _) OR7.out hgr)
              have D8 := Lib.hid (drawn_snoc DD.out (x := ⟨(yd + 1), ⟨#[]⟩, sp7, nm7, es7⟩) ⟨by simp only; omega, ⟨by show (ByteArray.empty).size ≤ 60; simp, hsp7, hnm7⟩, by have := O7.out.ats.len; simp only; omega, HSH7.out⟩)
              clear hown' hgr hat hatt hb8 hs7 hg7
              go_wp2
              go_roundw
              case rel => exact ⟨j - 1, m + 1, c8, a8, _, _, _, _, k7, vint (by omega), rfl, by omega, by omega, G8.out, D8.out, S8.out, E8.out⟩
              case measure => simp [intOf]; omega
            · cases hte : t.toList.isEmpty
              · go_wp2_with (at_builtin; refine wpList_append_own_at _ rfl _ _ 24 rfl w.heap.size 54 i0 (.agg #[.int .i64 0, .string ByteArray.empty, .string ByteArray.empty, .string ByteArray.empty, .slice none 0 0]) 5 80 Tryz.underlying24 hi hz0 hi1 hz2 rfl (by decide) _ (m + 1) _ rfl (G6.out.row.alloc _) ⟨w6.heap.size, 0, none⟩ 1 1 [.int .i64 (yd + 1), .string t, .string ⟨#[]⟩, .string ⟨#[]⟩, .slice none 0 0] rfl rfl ?c1 ?c2 ?c3 ?c4 ?c5 ?_)
                case c1 => exact fun j u hj => itCells w6 _ _ _ _ _ j u hj
                case c2 => intro v hv; simp at hv; rcases hv with rfl | rfl | rfl | rfl <;> rfl
                case c3 => unfold maxLen; omega
                case c4 => omega
                case c5 => simp; omega
                intro v' w8 hown' hgr _ hat
                obtain ⟨a8, c8, rfl⟩ := owns_slice hown'
                have hb8 := below1 w6 (.cells #[.int .i64 (yd + 1), .string t, .string ⟨#[]⟩, .string ⟨#[]⟩, .slice none 0 0] 54)
                have G8 := Lib.hid (G6.out.snocO (P := fun i => some i = some b) (x := ⟨(yd + 1), t, ⟨#[]⟩, ⟨#[]⟩, []⟩) (Only.below hb8) (fun i hi e => by simp only [Option.some.injEq] at e; omega)
                  (noAts0 _ _ _) (noRow0 _ _) (fun _ => rfl) (by omega) hown' hgr (hat.imp id fun e => ⟨w6.heap.size + 1, by simpa using e, by simp⟩))
                have S8 := Lib.hid ((S6.out.below hb8).grown hgr (fun g e => by have := (G6.out.row.lt g e).1; omega))
                have E8 := Lib.hid (step_appended E6.out (Nat.le_refl _) G6.out.row hgr)
                have D8 := Lib.hid (drawn_snoc DD.out (x := ⟨(yd + 1), t, ⟨#[]⟩, ⟨#[]⟩, []⟩) ⟨by simp only; omega, ⟨by simp only; omega, by show (ByteArray.empty).size ≤ 60; simp, by show (ByteArray.empty).size ≤ 60; simp⟩, by simp, fun i => by simp [dAt]⟩)
                clear hown' hgr hat hb8
                go_wp2
                go_roundw
                case rel => exact ⟨j - 1, m + 1, c8, a8, _, _, _, _, k5 + 1, vint (by omega), rfl, by omega, by omega, G8.out, D8.out, S8.out, E8.out⟩
                case measure => simp [intOf]; omega
              · go_wp2_with fail
                refine (KE.out (k5 + 1) (yd + 1) (by omega) _ S6.out).mono ?_
                rintro e w7 ⟨sp7, nm7, x7, m7, q7, es7, k7, rfl, hsp7, hnm7, how7, hm7, hsh7, hnil7, hrw7, hk7, hs7, hg7⟩
                have OR7 := Lib.hid (row_grown G6.out.row hg7 hblt)
                have hz7 : w6.heap.size ≤ w7.heap.size := hg7.size
                have HSH7 := Lib.hid hsh7
                have O7 := Lib.hid how7
                have NIL7 := Lib.hid hnil7
                have HRW7 := Lib.hid hrw7
                clear how7 hsh7 hnil7 hrw7
                go_wp2_with (at_builtin; refine wpList_append_own_at _ rfl _ _ 24 rfl w.heap.size 54 i0 (.agg #[.int .i64 0, .string ByteArray.empty, .string ByteArray.empty, .string ByteArray.empty, .slice none 0 0]) 5 80 Tryz.underlying24 hi hz0 hi1 hz2 rfl (by decide) _ (m + 1) _ rfl (OR7.out.alloc _) ⟨w7.heap.size, 0, none⟩ 1 1 [.int .i64 (yd + 1), .string ⟨#[]⟩, .string sp7, .string nm7, .slice x7 m7 q7] rfl rfl ?c1 ?c2 ?c3 ?c4 ?c5 ?_)
                case c1 => exact fun j u hj => itCells w7 _ _ _ _ _ j u hj
                case c2 => intro v hv; simp at hv; rcases hv with rfl | rfl | rfl | rfl | rfl <;> rfl
                case c3 => unfold maxLen; omega
                case c4 => omega
                case c5 => simp; omega
                intro v' w8 hown' hgr _ hat
                obtain ⟨a8, c8, rfl⟩ := owns_slice hown'
                have hb8 := below1 w7 (.cells #[.int .i64 (yd + 1), .string ⟨#[]⟩, .string sp7, .string nm7, .slice x7 m7 q7] 54)
                have hatt := O7.out.only (Only.below (P := fun _ => False) hb8) fun _ _ _ h => h
                have G8 := Lib.hid (G6.out.snocO (P := fun i => some i = some b) (x := ⟨(yd + 1), ⟨#[]⟩, sp7, nm7, es7⟩) ((Only.grown hg7).trans (Only.below hb8)) (fun i hi e => by simp only [Option.some.injEq] at e; omega)
                  ⟨hatt.ats, hatt.own.imp id fun ⟨q, g1, g2, g3, g4⟩ => ⟨q, g1, g2, by have := hb8.size; omega, g4⟩⟩ (owns_below HRW7.out hb8) NIL7.out (by omega) hown' hgr (hat.imp id fun e => ⟨w7.heap.size + 1, by simpa using e, by simp⟩))
                have S8 := Lib.hid ((hs7.below hb8).grown hgr (fun g e => by have := (OR7.out.lt g e).1; omega))
                have E8 := Lib.hid (step_appended (grown_trans_row E6.out hg7) (Nat.le_refl _) OR7.out hgr)
                have D8 := Lib.hid (drawn_snoc DD.out (x := ⟨(yd + 1), ⟨#[]⟩, sp7, nm7, es7⟩) ⟨by simp only; omega, ⟨by show (ByteArray.empty).size ≤ 60; simp, hsp7, hnm7⟩, by have := O7.out.ats.len; simp only; omega, HSH7.out⟩)
                clear hown' hgr hat hatt hb8 hs7 hg7
                go_wp2
                go_roundw
                case rel => exact ⟨j - 1, m + 1, c8, a8, _, _, _, _, k7, vint (by omega), rfl, by omega, by omega, G8.out, D8.out, S8.out, E8.out⟩
                case measure => simp [intOf]; omega
        · go_wp2_with fail
          refine (KD.out (k' + 1) (by omega) _ S4.out).mono ?_
          rintro e w5 ⟨t, k5, rfl, ht, hk5, hs5, hg5⟩
          have G5 := Lib.hid (G4.out.far hg5 hblt)
          have S5 := Lib.hid hs5
          have E5 := Lib.hid (grown_trans_row E4.out hg5)
          have X5' := Lib.hid (X4.out.grown hg5 (by simp; omega))
          clear hs5 hg5
          go_wp2_with fail
          refine (KC.out k5 (by omega) _ S5.out).mono ?_
          rintro e w6 ⟨⟨ch, rfl⟩, hs6, hg6⟩
          have G6 := Lib.hid (G5.out.far hg6 hblt)
          have S6 := Lib.hid hs6
          have E6 := Lib.hid (grown_trans_row E5.out hg6)
          have X6 := X5'.out.grown hg6 (by simp; omega)
          have y0 := X6.c0
          have y3 := X6.c3
          have hwz6 : w.heap.size ≤ w6.heap.size := E6.out.size
          clear hs6 hg6 X6
          cases ch
          · go_wp2_with fail
            refine (KE.out (k5 + 1) dm (by omega) _ S6.out).mono ?_
            rintro e w7 ⟨sp7, nm7, x7, m7, q7, es7, k7, rfl, hsp7, hnm7, how7, hm7, hsh7, hnil7, hrw7, hk7, hs7, hg7⟩
            have OR7 := Lib.hid (row_grown G6.out.row hg7 hblt)
            have hz7 : w6.heap.size ≤ w7.heap.size := hg7.size
            have HSH7 := Lib.hid hsh7
            have O7 := Lib.hid how7
            have NIL7 := Lib.hid hnil7
            have HRW7 := Lib.hid hrw7
            clear how7 hsh7 hnil7 hrw7
            go_wp2_with (at_builtin; refine wpList_append_own_at _ rfl _ _ 24 rfl w.heap.size 54 i0 (.agg #[.int .i64 0, .string ByteArray.empty, .string ByteArray.empty, .string ByteArray.empty, .slice none 0 0]) 5 80 Tryz.underlying24 hi hz0 hi1 hz2 rfl (by decide) _ (m + 1) _ rfl (OR7.out.alloc _) ⟨w7.heap.size, 0, none⟩ 1 1 [.int .i64 dm, .string ⟨#[]⟩, .string sp7, .string nm7, .slice x7 m7 q7] rfl rfl ?c1 ?c2 ?c3 ?c4 ?c5 ?_)
            case c1 => exact fun j u hj => itCells w7 _ _ _ _ _ j u hj
            case c2 => intro v hv; simp at hv; rcases hv with rfl | rfl | rfl | rfl | rfl <;> rfl
            case c3 => unfold maxLen; omega
            case c4 => omega
            case c5 => simp; omega
            intro v' w8 hown' hgr _ hat
            obtain ⟨a8, c8, rfl⟩ := owns_slice hown'
            have hb8 := below1 w7 (.cells #[.int .i64 dm, .string ⟨#[]⟩, .string sp7, .string nm7, .slice x7 m7 q7] 54)
            have hatt := O7.out.only (Only.below (P := fun _ => False) hb8) fun _ _ _ h => h
            have G8 := Lib.hid (G6.out.snocO (P := fun i => some i = some b) (x := ⟨dm, ⟨#[]⟩, sp7, nm7, es7⟩) ((Only.grown hg7).trans (Only.below hb8)) (fun i hi e => by simp only [Option.some.injEq] at e; omega)
              ⟨hatt.ats, hatt.own.imp id fun ⟨q, g1, g2, g3, g4⟩ => ⟨q, g1, g2, by have := hb8.size; omega, g4⟩⟩ (owns_below HRW7.out hb8) NIL7.out (by omega) hown' hgr (hat.imp id fun e => ⟨w7.heap.size + 1, by simpa using e, by simp⟩))
            have S8 := Lib.hid ((hs7.below hb8).grown hgr (fun g e => by have := (OR7.out.lt g e).1; omega))
            have E8 := Lib.hid (step_appended (grown_trans_row E6.out hg7) (Nat.le_refl _) OR7.out hgr)
            have D8 := Lib.hid (drawn_snoc DD.out (x := ⟨dm, ⟨#[]⟩, sp7, nm7, es7⟩) ⟨by simp only; omega, ⟨by show (ByteArray.empty).size ≤ 60; simp, hsp7, hnm7⟩, by have := O7.out.ats.len; simp only; omega, HSH7.out⟩)
            clear hown' hgr hat hatt hb8 hs7 hg7
            go_wp2
            go_roundw
            case rel => exact ⟨j - 1, m + 1, c8, a8, _, _, _, _, k7, vint (by omega), rfl, by omega, by omega, G8.out, D8.out, S8.out, E8.out⟩
            case measure => simp [intOf]; omega
          · cases hte : t.toList.isEmpty
            · go_wp2_with (at_builtin; refine wpList_append_own_at _ rfl _ _ 24 rfl w.heap.size 54 i0 (.agg #[.int .i64 0, .string ByteArray.empty, .string ByteArray.empty, .string ByteArray.empty, .slice none 0 0]) 5 80 Tryz.underlying24 hi hz0 hi1 hz2 rfl (by decide) _ (m + 1) _ rfl (G6.out.row.alloc _) ⟨w6.heap.size, 0, none⟩ 1 1 [.int .i64 dm, .string t, .string ⟨#[]⟩, .string ⟨#[]⟩, .slice none 0 0] rfl rfl ?c1 ?c2 ?c3 ?c4 ?c5 ?_)
              case c1 => exact fun j u hj => itCells w6 _ _ _ _ _ j u hj
              case c2 => intro v hv; simp at hv; rcases hv with rfl | rfl | rfl | rfl <;> rfl
              case c3 => unfold maxLen; omega
              case c4 => omega
              case c5 => simp; omega
              intro v' w8 hown' hgr _ hat
              obtain ⟨a8, c8, rfl⟩ := owns_slice hown'
              have hb8 := below1 w6 (.cells #[.int .i64 dm, .string t, .string ⟨#[]⟩, .string ⟨#[]⟩, .slice none 0 0] 54)
              have G8 := Lib.hid (G6.out.snocO (P := fun i => some i = some b) (x := ⟨dm, t, ⟨#[]⟩, ⟨#[]⟩, []⟩) (Only.below hb8) (fun i hi e => by simp only [Option.some.injEq] at e; omega)
                (noAts0 _ _ _) (noRow0 _ _) (fun _ => rfl) (by omega) hown' hgr (hat.imp id fun e => ⟨w6.heap.size + 1, by simpa using e, by simp⟩))
              have S8 := Lib.hid ((S6.out.below hb8).grown hgr (fun g e => by have := (G6.out.row.lt g e).1; omega))
              have E8 := Lib.hid (step_appended E6.out (Nat.le_refl _) G6.out.row hgr)
              have D8 := Lib.hid (drawn_snoc DD.out (x := ⟨dm, t, ⟨#[]⟩, ⟨#[]⟩, []⟩) ⟨by simp only; omega, ⟨by simp only; omega, by show (ByteArray.empty).size ≤ 60; simp, by show (ByteArray.empty).size ≤ 60; simp⟩, by simp, fun i => by simp [dAt]⟩)
              clear hown' hgr hat hb8
              go_wp2
              go_roundw
              case rel => exact ⟨j - 1, m + 1, c8, a8, _, _, _, _, k5 + 1, vint (by omega), rfl, by omega, by omega, G8.out, D8.out, S8.out, E8.out⟩
              case measure => simp [intOf]; omega
            · go_wp2_with fail
              refine (KE.out (k5 + 1) dm (by omega) _ S6.out).mono ?_
              rintro e w7 ⟨sp7, nm7, x7, m7, q7, es7, k7, rfl, hsp7, hnm7, how7, hm7, hsh7, hnil7, hrw7, hk7, hs7, hg7⟩
              have OR7 := Lib.hid (row_grown G6.out.row hg7 hblt)
              have hz7 : w6.heap.size ≤ w7.heap.size := hg7.size
              have HSH7 := Lib.hid hsh7
              have O7 := Lib.hid how7
              have NIL7 := Lib.hid hnil7
              have HRW7 := Lib.hid hrw7
              clear how7 hsh7 hnil7 hrw7
              go_wp2_with (at_builtin; refine wpList_append_own_at _ rfl _ _ 24 rfl w.heap.size 54 i0 (.agg #[.int .i64 0, .string ByteArray.empty, .string ByteArray.empty, .string ByteArray.empty, .slice none 0 0]) 5 80 Tryz.underlying24 hi hz0 hi1 hz2 rfl (by decide) _ (m + 1) _ rfl (OR7.out.alloc _) ⟨w7.heap.size, 0, none⟩ 1 1 [.int .i64 dm, .string ⟨#[]⟩, .string sp7, .string nm7, .slice x7 m7 q7] rfl rfl ?c1 ?c2 ?c3 ?c4 ?c5 ?_)
              case c1 => exact fun j u hj => itCells w7 _ _ _ _ _ j u hj
              case c2 => intro v hv; simp at hv; rcases hv with rfl | rfl | rfl | rfl | rfl <;> rfl
              case c3 => unfold maxLen; omega
              case c4 => omega
              case c5 => simp; omega
              intro v' w8 hown' hgr _ hat
              obtain ⟨a8, c8, rfl⟩ := owns_slice hown'
              have hb8 := below1 w7 (.cells #[.int .i64 dm, .string ⟨#[]⟩, .string sp7, .string nm7, .slice x7 m7 q7] 54)
              have hatt := O7.out.only (Only.below (P := fun _ => False) hb8) fun _ _ _ h => h
              have G8 := Lib.hid (G6.out.snocO (P := fun i => some i = some b) (x := ⟨dm, ⟨#[]⟩, sp7, nm7, es7⟩) ((Only.grown hg7).trans (Only.below hb8)) (fun i hi e => by simp only [Option.some.injEq] at e; omega)
                ⟨hatt.ats, hatt.own.imp id fun ⟨q, g1, g2, g3, g4⟩ => ⟨q, g1, g2, by have := hb8.size; omega, g4⟩⟩ (owns_below HRW7.out hb8) NIL7.out (by omega) hown' hgr (hat.imp id fun e => ⟨w7.heap.size + 1, by simpa using e, by simp⟩))
              have S8 := Lib.hid ((hs7.below hb8).grown hgr (fun g e => by have := (OR7.out.lt g e).1; omega))
              have E8 := Lib.hid (step_appended (grown_trans_row E6.out hg7) (Nat.le_refl _) OR7.out hgr)
              have D8 := Lib.hid (drawn_snoc DD.out (x := ⟨dm, ⟨#[]⟩, sp7, nm7, es7⟩) ⟨by simp only; omega, ⟨by show (ByteArray.empty).size ≤ 60; simp, hsp7, hnm7⟩, by have := O7.out.ats.len; simp only; omega, HSH7.out⟩)
              clear hown' hgr hat hatt hb8 hs7 hg7
              go_wp2
              go_roundw
              case rel => exact ⟨j - 1, m + 1, c8, a8, _, _, _, _, k7, vint (by omega), rfl, by omega, by omega, G8.out, D8.out, S8.out, E8.out⟩
              case measure => simp [intOf]; omega
      · go_wp2_with fail
        refine (l1Max_any (yd) 1 _).mono ?_
        rintro e w3 ⟨rfl, rfl⟩
        have hmx := maxI_bd (T := yd) (by omega)
        generalize maxI (yd) 1 = mx at *
        have HB3 := Lib.hid (below1 wr (.cells #[.int .i64 yd, .string yt, .string ys, .string yn, .slice a4 n4 c4'] 54))
        go_wp2_with fail
        refine (KN.out k' mx hmx.1 (by omega) (by omega) _ (SS.out.below HB3.out)).mono ?_
        rintro e w4 ⟨r4, rfl, hr4, hs4, hg4⟩
        have hr4 := hr4 hmx.1
        have hr4b : (r4 : Int) < 8 := by omega
        have S4 := Lib.hid hs4
        have G4 := Lib.hid ((GG.out.below HB3.out).far hg4 hblt)
        have E4 := Lib.hid (grown_trans_row (step_below EE.out HB3.out) hg4)
        have X4 := Lib.hid ((X5.new wr 54 (.int .i64 yd) (.string yt) (.string ys) (.string yn) (.slice a4 n4 c4')).grown hg4 (by simp; omega))
        have q0 := X4.out.c0
        have q3 := X4.out.c3
        clear hs4 hg4 c0 c1 c2 c3 c4
        go_wp2_with fail
        refine (l1Min_any (1 + (r4 : Int)) 6 _).mono ?_
        rintro e w5 ⟨rfl, rfl⟩
        have hdm := minI_bd (x := 1 + (r4 : Int)) (by omega)
        generalize minI (1 + (r4 : Int)) 6 = dm at *
        clear hr4 hr4b
        by_cases hdt : yd < dm
        · by_cases ht1 : yd < 1
          · go_wp2
            go_roundw
            case rel => exact ⟨j - 1, m, q, _, l, A, N, C, k' + 1, vint (by omega), rfl, by omega, by omega, G4.out, DD.out, S4.out, E4.out⟩
            case measure => simp [intOf]; omega
          · have hd6 : yd ≤ 6 := by omega
            have hd1 : 1 ≤ yd := by omega
            go_wp2_with fail
            refine (KD.out (k' + 1) (by omega) _ S4.out).mono ?_
            rintro e w5 ⟨t, k5, rfl, ht, hk5, hs5, hg5⟩
            have G5 := Lib.hid (G4.out.far hg5 hblt)
            have S5 := Lib.hid hs5
            have E5 := Lib.hid (grown_trans_row E4.out hg5)
            have X5' := Lib.hid (X4.out.grown hg5 (by simp; omega))
            clear hs5 hg5
            go_wp2_with fail
            refine (KC.out k5 (by omega) _ S5.out).mono ?_
            rintro e w6 ⟨⟨ch, rfl⟩, hs6, hg6⟩
            have G6 := Lib.hid (G5.out.far hg6 hblt)
            have S6 := Lib.hid hs6
            have E6 := Lib.hid (grown_trans_row E5.out hg6)
            have X6 := X5'.out.grown hg6 (by simp; omega)
            have y0 := X6.c0
            have y3 := X6.c3
            have hwz6 : w.heap.size ≤ w6.heap.size := E6.out.size
            clear hs6 hg6 X6
            cases ch
            · go_wp2_with fail
              refine (KE.out (k5 + 1) (yd) (by omega) _ S6.out).mono ?_
              rintro e w7 ⟨sp7, nm7, x7, m7, q7, es7, k7, rfl, hsp7, hnm7, how7, hm7, hsh7, hnil7, hrw7, hk7, hs7, hg7⟩
              have OR7 := Lib.hid (row_grown G6.out.row hg7 hblt)
              have hz7 : w6.heap.size ≤ w7.heap.size := hg7.size
              have HSH7 := Lib.hid hsh7
              have O7 := Lib.hid how7
              have NIL7 := Lib.hid hnil7
              have HRW7 := Lib.hid hrw7
              clear how7 hsh7 hnil7 hrw7
              go_wp2_with (at_builtin; refine wpList_append_own_at _ rfl _ _ 24 rfl w.heap.size 54 i0 (.agg #[.int .i64 0, .string ByteArray.empty, .string ByteArray.empty, .string ByteArray.empty, .slice none 0 0]) 5 80 Tryz.underlying24 hi hz0 hi1 hz2 rfl (by decide) _ (m + 1) _ rfl (OR7.out.alloc _) ⟨w7.heap.size, 0, none⟩ 1 1 [.int .i64 (yd), .string ⟨#[]⟩, .string sp7, .string nm7, .slice x7 m7 q7] rfl rfl ?c1 ?c2 ?c3 ?c4 ?c5 ?_)
              case c1 => exact fun j u hj => itCells w7 _ _ _ _ _ j u hj
              case c2 => intro v hv; simp at hv; rcases hv with rfl | rfl | rfl | rfl | rfl <;> rfl
              case c3 => unfold maxLen; omega
              case c4 => omega
              case c5 => simp; omega
              intro v' w8 hown' hgr _ hat
              obtain ⟨a8, c8, rfl⟩ := owns_slice hown'
              have hb8 := below1 w7 (.cells #[.int .i64 (yd), .string ⟨#[]⟩, .string sp7, .string nm7, .slice x7 m7 q7] 54)
              have hatt := O7.out.only (Only.below (P := fun _ => False) hb8) fun _ _ _ h => h
              have G8 := Lib.hid (G6.out.snocO (P := fun i => some i = some b) (x := ⟨(yd), ⟨#[]⟩, sp7, nm7, es7⟩) ((Only.grown hg7).trans (Only.below hb8)) (fun i hi e => by simp only [Option.some.injEq] at e; omega)
                ⟨hatt.ats, hatt.own.imp id fun ⟨q, g1, g2, g3, g4⟩ => ⟨q, g1, g2, by have := hb8.size; omega, g4⟩⟩ (owns_below HRW7.out hb8) NIL7.out (by omega) hown' hgr (hat.imp id fun e => ⟨w7.heap.size + 1, by simpa using e, by simp⟩))
              have S8 := Lib.hid ((hs7.below hb8).grown hgr (fun g e => by have := (OR7.out.lt g e).1; omega))
              have E8 := Lib.hid (step_appended (grown_trans_row E6.out hg7) (Nat.le_refl _) OR7.out hgr)
              have D8 := Lib.hid (drawn_snoc DD.out (x := ⟨(yd), ⟨#[]⟩, sp7, nm7, es7⟩) ⟨by simp only; omega, ⟨by show (ByteArray.empty).size ≤ 60; simp, hsp7, hnm7⟩, by have := O7.out.ats.len; simp only; omega, HSH7.out⟩)
              clear hown' hgr hat hatt hb8 hs7 hg7
              go_wp2
              go_roundw
              case rel => exact ⟨j - 1, m + 1, c8, a8, _, _, _, _, k7, vint (by omega), rfl, by omega, by omega, G8.out, D8.out, S8.out, E8.out⟩
              case measure => simp [intOf]; omega
            · cases hte : t.toList.isEmpty
              · have hdq' : (yd == (yd)) = true := by simp
                go_wp2_with fail
                refine (KE.out (k5 + 1) (yd) (by omega) _ S6.out).mono ?_
                rintro e w7 ⟨sp7, nm7, x7, m7, q7, es7, k7, rfl, hsp7, hnm7, how7, hm7, hsh7, hnil7, hrw7, hk7, hs7, hg7⟩
                have OR7 := Lib.hid (row_grown G6.out.row hg7 hblt)
                have hz7 : w6.heap.size ≤ w7.heap.size := hg7.size
                have HSH7 := Lib.hid hsh7
                have O7 := Lib.hid how7
                have NIL7 := Lib.hid hnil7
                have HRW7 := Lib.hid hrw7
                clear how7 hsh7 hnil7 hrw7
                go_wp2_with (at_builtin; refine wpList_append_own_at _ rfl _ _ 24 rfl w.heap.size 54 i0 (.agg #[.int .i64 0, .string ByteArray.empty, .string ByteArray.empty, .string ByteArray.empty, .slice none 0 0]) 5 80 Tryz.underlying24 hi hz0 hi1 hz2 rfl (by decide) _ (m + 1) _ rfl (OR7.out.alloc _) ⟨w7.heap.size, 0, none⟩ 1 1 [.int .i64 (yd), .string ⟨#[]⟩, .string sp7, .string nm7, .slice x7 m7 q7] rfl rfl ?c1 ?c2 ?c3 ?c4 ?c5 ?_)
                case c1 => exact fun j u hj => itCells w7 _ _ _ _ _ j u hj
                case c2 => intro v hv; simp at hv; rcases hv with rfl | rfl | rfl | rfl | rfl <;> rfl
                case c3 => unfold maxLen; omega
                case c4 => omega
                case c5 => simp; omega
                intro v' w8 hown' hgr _ hat
                obtain ⟨a8, c8, rfl⟩ := owns_slice hown'
                have hb8 := below1 w7 (.cells #[.int .i64 (yd), .string ⟨#[]⟩, .string sp7, .string nm7, .slice x7 m7 q7] 54)
                have hatt := O7.out.only (Only.below (P := fun _ => False) hb8) fun _ _ _ h => h
                have G8 := Lib.hid (G6.out.snocO (P := fun i => some i = some b) (x := ⟨(yd), ⟨#[]⟩, sp7, nm7, es7⟩) ((Only.grown hg7).trans (Only.below hb8)) (fun i hi e => by simp only [Option.some.injEq] at e; omega)
                  ⟨hatt.ats, hatt.own.imp id fun ⟨q, g1, g2, g3, g4⟩ => ⟨q, g1, g2, by have := hb8.size; omega, g4⟩⟩ (owns_below HRW7.out hb8) NIL7.out (by omega) hown' hgr (hat.imp id fun e => ⟨w7.heap.size + 1, by simpa using e, by simp⟩))
                have S8 := Lib.hid ((hs7.below hb8).grown hgr (fun g e => by have := (OR7.out.lt g e).1; omega))
                have E8 := Lib.hid (step_appended (grown_trans_row E6.out hg7) (Nat.le_refl _) OR7.out hgr)
                have D8 := Lib.hid (drawn_snoc DD.out (x := ⟨(yd), ⟨#[]⟩, sp7, nm7, es7⟩) ⟨by simp only; omega, ⟨by show (ByteArray.empty).size ≤ 60; simp, hsp7, hnm7⟩, by have := O7.out.ats.len; simp only; omega, HSH7.out⟩)
                clear hown' hgr hat hatt hb8 hs7 hg7
                go_wp2
                go_roundw
                case rel => exact ⟨j - 1, m + 1, c8, a8, _, _, _, _, k7, vint (by omega), rfl, by omega, by omega, G8.out, D8.out, S8.out, E8.out⟩
                case measure => simp [intOf]; omega
              · go_wp2_with fail
                refine (KE.out (k5 + 1) (yd) (by omega) _ S6.out).mono ?_
                rintro e w7 ⟨sp7, nm7, x7, m7, q7, es7, k7, rfl, hsp7, hnm7, how7, hm7, hsh7, hnil7, hrw7, hk7, hs7, hg7⟩
                have OR7 := Lib.hid (row_grown G6.out.row hg7 hblt)
                have hz7 : w6.heap.size ≤ w7.heap.size := hg7.size
                have HSH7 := Lib.hid hsh7
                have O7 := Lib.hid how7
                have NIL7 := Lib.hid hnil7
                have HRW7 := Lib.hid hrw7
                clear how7 hsh7 hnil7 hrw7
                go_wp2_with (at_builtin; refine wpList_append_own_at _ rfl _ _ 24 rfl w.heap.size 54 i0 (.agg #[.int .i64 0, .string ByteArray.empty, .string ByteArray.empty, .string ByteArray.empty, .slice none 0 0]) 5 80 Tryz.underlying24 hi hz0 hi1 hz2 rfl (by decide) _ (m + 1) _ rfl (OR7.out.alloc _) ⟨w7.heap.size, 0, none⟩ 1 1 [.int .i64 (yd), .string ⟨#[]⟩, .string sp7, .string nm7, .slice x7 m7 q7] rfl rfl ?c1 ?c2 ?c3 ?c4 ?c5 ?_)
                case c1 => exact fun j u hj => itCells w7 _ _ _ _ _ j u hj
                case c2 => intro v hv; simp at hv; rcases hv with rfl | rfl | rfl | rfl | rfl <;> rfl
                case c3 => unfold maxLen; omega
                case c4 => omega
                case c5 => simp; omega
                intro v' w8 hown' hgr _ hat
                obtain ⟨a8, c8, rfl⟩ := owns_slice hown'
                have hb8 := below1 w7 (.cells #[.int .i64 (yd), .string ⟨#[]⟩, .string sp7, .string nm7, .slice x7 m7 q7] 54)
                have hatt := O7.out.only (Only.below (P := fun _ => False) hb8) fun _ _ _ h => h
                have G8 := Lib.hid (G6.out.snocO (P := fun i => some i = some b) (x := ⟨(yd), ⟨#[]⟩, sp7, nm7, es7⟩) ((Only.grown hg7).trans (Only.below hb8)) (fun i hi e => by simp only [Option.some.injEq] at e; omega)
                  ⟨hatt.ats, hatt.own.imp id fun ⟨q, g1, g2, g3, g4⟩ => ⟨q, g1, g2, by have := hb8.size; omega, g4⟩⟩ (owns_below HRW7.out hb8) NIL7.out (by omega) hown' hgr (hat.imp id fun e => ⟨w7.heap.size + 1, by simpa using e, by simp⟩))
                have S8 := Lib.hid ((hs7.below hb8).grown hgr (fun g e => by have := (OR7.out.lt g e).1; omega))
                have E8 := Lib.hid (step_appended (grown_trans_row E6.out hg7) (Nat.le_refl _) OR7.out hgr)
                have D8 := Lib.hid (drawn_snoc DD.out (x := ⟨(yd), ⟨#[]⟩, sp7, nm7, es7⟩) ⟨by simp only; omega, ⟨by show (ByteArray.empty).size ≤ 60; simp, hsp7, hnm7⟩, by have := O7.out.ats.len; simp only; omega, HSH7.out⟩)
                clear hown' hgr hat hatt hb8 hs7 hg7
                go_wp2
                go_roundw
                case rel => exact ⟨j - 1, m + 1, c8, a8, _, _, _, _, k7, vint (by omega), rfl, by omega, by omega, G8.out, D8.out, S8.out, E8.out⟩
                case measure => simp [intOf]; omega
        · go_wp2_with fail
          refine (KD.out (k' + 1) (by omega) _ S4.out).mono ?_
          rintro e w5 ⟨t, k5, rfl, ht, hk5, hs5, hg5⟩
          have G5 := Lib.hid (G4.out.far hg5 hblt)
          have S5 := Lib.hid hs5
          have E5 := Lib.hid (grown_trans_row E4.out hg5)
          have X5' := Lib.hid (X4.out.grown hg5 (by simp; omega))
          clear hs5 hg5
          go_wp2_with fail
          refine (KC.out k5 (by omega) _ S5.out).mono ?_
          rintro e w6 ⟨⟨ch, rfl⟩, hs6, hg6⟩
          have G6 := Lib.hid (G5.out.far hg6 hblt)
          have S6 := Lib.hid hs6
          have E6 := Lib.hid (grown_trans_row E5.out hg6)
          have X6 := X5'.out.grown hg6 (by simp; omega)
          have y0 := X6.c0
          have y3 := X6.c3
          have hwz6 : w.heap.size ≤ w6.heap.size := E6.out.size
          clear hs6 hg6 X6
          cases ch
          · go_wp2_with fail
            refine (KE.out (k5 + 1) dm (by omega) _ S6.out).mono ?_
            rintro e w7 ⟨sp7, nm7, x7, m7, q7, es7, k7, rfl, hsp7, hnm7, how7, hm7, hsh7, hnil7, hrw7, hk7, hs7, hg7⟩
            have OR7 := Lib.hid (row_grown G6.out.row hg7 hblt)
            have hz7 : w6.heap.size ≤ w7.heap.size := hg7.size
            have HSH7 := Lib.hid hsh7
            have O7 := Lib.hid how7
            have NIL7 := Lib.hid hnil7
            have HRW7 := Lib.hid hrw7
            clear how7 hsh7 hnil7 hrw7
            go_wp2_with (at_builtin; refine wpList_append_own_at _ rfl _ _ 24 rfl w.heap.size 54 i0 (.agg #[.int .i64 0, .string ByteArray.empty, .string ByteArray.empty, .string ByteArray.empty, .slice none 0 0]) 5 80 Tryz.underlying24 hi hz0 hi1 hz2 rfl (by decide) _ (m + 1) _ rfl (OR7.out.alloc _) ⟨w7.heap.size, 0, none⟩ 1 1 [.int .i64 dm, .string ⟨#[]⟩, .string sp7, .string nm7, .slice x7 m7 q7] rfl rfl ?c1 ?c2 ?c3 ?c4 ?c5 ?_)
            case c1 => exact fun j u hj => itCells w7 _ _ _ _ _ j u hj
            case c2 => intro v hv; simp at hv; rcases hv with rfl | rfl | rfl | rfl | rfl <;> rfl
            case c3 => unfold maxLen; omega
            case c4 => omega
            case c5 => simp; omega
            intro v' w8 hown' hgr _ hat
            obtain ⟨a8, c8, rfl⟩ := owns_slice hown'
            have hb8 := below1 w7 (.cells #[.int .i64 dm, .string ⟨#[]⟩, .string sp7, .string nm7, .slice x7 m7 q7] 54)
            have hatt := O7.out.only (Only.below (P := fun _ => False) hb8) fun _ _ _ h => h
            have G8 := Lib.hid (G6.out.snocO (P := fun i => some i = some b) (x := ⟨dm, ⟨#[]⟩, sp7, nm7, es7⟩) ((Only.grown hg7).trans (Only.below hb8)) (fun i hi e => by simp only [Option.some.injEq] at e; omega)
              ⟨hatt.ats, hatt.own.imp id fun ⟨q, g1, g2, g3, g4⟩ => ⟨q, g1, g2, by have := hb8.size; omega, g4⟩⟩ (owns_below HRW7.out hb8) NIL7.out (by omega) hown' hgr (hat.imp id fun e => ⟨w7.heap.size + 1, by simpa using e, by simp⟩))
            have S8 := Lib.hid ((hs7.below hb8).grown hgr (fun g e => by have := (OR7.out.lt g e).1; omega))
            have E8 := Lib.hid (step_appended (grown_trans_row E6.out hg7) (Nat.le_refl _) OR7.out hgr)
            have D8 := Lib.hid (drawn_snoc DD.out (x := ⟨dm, ⟨#[]⟩, sp7, nm7, es7⟩) ⟨by simp only; omega, ⟨by show (ByteArray.empty).size ≤ 60; simp, hsp7, hnm7⟩, by have := O7.out.ats.len; simp only; omega, HSH7.out⟩)
            clear hown' hgr hat hatt hb8 hs7 hg7
            go_wp2
            go_roundw
            case rel => exact ⟨j - 1, m + 1, c8, a8, _, _, _, _, k7, vint (by omega), rfl, by omega, by omega, G8.out, D8.out, S8.out, E8.out⟩
            case measure => simp [intOf]; omega
          · cases hte : t.toList.isEmpty
            · by_cases hdq : yd = dm
              · have hdq' : (yd == dm) = true := by rw [beq_iff_eq]; exact hdq
                clear hdq
                go_wp2_with fail
                refine (KE.out (k5 + 1) dm (by omega) _ S6.out).mono ?_
                rintro e w7 ⟨sp7, nm7, x7, m7, q7, es7, k7, rfl, hsp7, hnm7, how7, hm7, hsh7, hnil7, hrw7, hk7, hs7, hg7⟩
                have OR7 := Lib.hid (row_grown G6.out.row hg7 hblt)
                have hz7 : w6.heap.size ≤ w7.heap.size := hg7.size
                have HSH7 := Lib.hid hsh7
                have O7 := Lib.hid how7
                have NIL7 := Lib.hid hnil7
                have HRW7 := Lib.hid hrw7
                clear how7 hsh7 hnil7 hrw7
                go_wp2_with (at_builtin; refine wpList_append_own_at _ rfl _ _ 24 rfl w.heap.size 54 i0 (.agg #[.int .i64 0, .string ByteArray.empty, .string ByteArray.empty, .string ByteArray.empty, .slice none 0 0]) 5 80 Tryz.underlying24 hi hz0 hi1 hz2 rfl (by decide) _ (m + 1) _ rfl (OR7.out.alloc _) ⟨w7.heap.size, 0, none⟩ 1 1 [.int .i64 dm, .string ⟨#[]⟩, .string sp7, .string nm7, .slice x7 m7 q7] rfl rfl ?c1 ?c2 ?c3 ?c4 ?c5 ?_)
                case c1 => exact fun j u hj => itCells w7 _ _ _ _ _ j u hj
                case c2 => intro v hv; simp at hv; rcases hv with rfl | rfl | rfl | rfl | rfl <;> rfl
                case c3 => unfold maxLen; omega
                case c4 => omega
                case c5 => simp; omega
                intro v' w8 hown' hgr _ hat
                obtain ⟨a8, c8, rfl⟩ := owns_slice hown'
                have hb8 := below1 w7 (.cells #[.int .i64 dm, .string ⟨#[]⟩, .string sp7, .string nm7, .slice x7 m7 q7] 54)
                have hatt := O7.out.only (Only.below (P := fun _ => False) hb8) fun _ _ _ h => h
                have G8 := Lib.hid (G6.out.snocO (P := fun i => some i = some b) (x := ⟨dm, ⟨#[]⟩, sp7, nm7, es7⟩) ((Only.grown hg7).trans (Only.below hb8)) (fun i hi e => by simp only [Option.some.injEq] at e; omega)
                  ⟨hatt.ats, hatt.own.imp id fun ⟨q, g1, g2, g3, g4⟩ => ⟨q, g1, g2, by have := hb8.size; omega, g4⟩⟩ (owns_below HRW7.out hb8) NIL7.out (by omega) hown' hgr (hat.imp id fun e => ⟨w7.heap.size + 1, by simpa using e, by simp⟩))
                have S8 := Lib.hid ((hs7.below hb8).grown hgr (fun g e => by have := (OR7.out.lt g e).1; omega))
                have E8 := Lib.hid (step_appended (grown_trans_row E6.out hg7) (Nat.le_refl _) OR7.out hgr)
                have D8 := Lib.hid (drawn_snoc DD.out (x := ⟨dm, ⟨#[]⟩, sp7, nm7, es7⟩) ⟨by simp only; omega, ⟨by show (ByteArray.empty).size ≤ 60; simp, hsp7, hnm7⟩, by have := O7.out.ats.len; simp only; omega, HSH7.out⟩)
                clear hown' hgr hat hatt hb8 hs7 hg7
                go_wp2
                go_roundw
                case rel => exact ⟨j - 1, m + 1, c8, a8, _, _, _, _, k7, vint (by omega), rfl, by omega, by omega, G8.out, D8.out, S8.out, E8.out⟩
                case measure => simp [intOf]; omega
              · have hdq' : (yd == dm) = false := by rw [beq_eq_false_iff_ne]; exact hdq
                clear hdq
                go_wp2_with (at_builtin; refine wpList_append_own_at _ rfl _ _ 24 rfl w.heap.size 54 i0 (.agg #[.int .i64 0, .string ByteArray.empty, .string ByteArray.empty, .string ByteArray.empty, .slice none 0 0]) 5 80 Tryz.underlying24 hi hz0 hi1 hz2 rfl (by decide) _ (m + 1) _ rfl (G6.out.row.alloc _) ⟨w6.heap.size, 0, none⟩ 1 1 [.int .i64 dm, .string t, .string ⟨#[]⟩, .string ⟨#[]⟩, .slice none 0 0] rfl rfl ?c1 ?c2 ?c3 ?c4 ?c5 ?_)
                case c1 => exact fun j u hj => itCells w6 _ _ _ _ _ j u hj
                case c2 => intro v hv; simp at hv; rcases hv with rfl | rfl | rfl | rfl <;> rfl
                case c3 => unfold maxLen; omega
                case c4 => omega
                case c5 => simp; omega
                intro v' w8 hown' hgr _ hat
                obtain ⟨a8, c8, rfl⟩ := owns_slice hown'
                have hb8 := below1 w6 (.cells #[.int .i64 dm, .string t, .string ⟨#[]⟩, .string ⟨#[]⟩, .slice none 0 0] 54)
                have G8 := Lib.hid (G6.out.snocO (P := fun i => some i = some b) (x := ⟨dm, t, ⟨#[]⟩, ⟨#[]⟩, []⟩) (Only.below hb8) (fun i hi e => by simp only [Option.some.injEq] at e; omega)
                  (noAts0 _ _ _) (noRow0 _ _) (fun _ => rfl) (by omega) hown' hgr (hat.imp id fun e => ⟨w6.heap.size + 1, by simpa using e, by simp⟩))
                have S8 := Lib.hid ((S6.out.below hb8).grown hgr (fun g e => by have := (G6.out.row.lt g e).1; omega))
                have E8 := Lib.hid (step_appended E6.out (Nat.le_refl _) G6.out.row hgr)
                have D8 := Lib.hid (drawn_snoc DD.out (x := ⟨dm, t, ⟨#[]⟩, ⟨#[]⟩, []⟩) ⟨by simp only; omega, ⟨by simp only; omega, by show (ByteArray.empty).size ≤ 60; simp, by show (ByteArray.empty).size ≤ 60; simp⟩, by simp, fun i => by simp [dAt]⟩)
                clear hown' hgr hat hb8
                go_wp2
                go_roundw
                case rel => exact ⟨j - 1, m + 1, c8, a8, _, _, _, _, k5 + 1, vint (by omega), rfl, by omega, by omega, G8.out, D8.out, S8.out, E8.out⟩
                case measure => simp [intOf]; omega
            · go_wp2_with fail
              refine (KE.out (k5 + 1) dm (by omega) _ S6.out).mono ?_
              rintro e w7 ⟨sp7, nm7, x7, m7, q7, es7, k7, rfl, hsp7, hnm7, how7, hm7, hsh7, hnil7, hrw7, hk7, hs7, hg7⟩
              have OR7 := Lib.hid (row_grown G6.out.row hg7 hblt)
              have hz7 : w6.heap.size ≤ w7.heap.size := hg7.size
              have HSH7 := Lib.hid hsh7
              have O7 := Lib.hid how7
              have NIL7 := Lib.hid hnil7
              have HRW7 := Lib.hid hrw7
              clear how7 hsh7 hnil7 hrw7
              go_wp2_with (at_builtin; refine wpList_append_own_at _ rfl _ _ 24 rfl w.heap.size 54 i0 (.agg #[.int .i64 0, .string ByteArray.empty, .string ByteArray.empty, .string ByteArray.empty, .slice none 0 0]) 5 80 Tryz.underlying24 hi hz0 hi1 hz2 rfl (by decide) _ (m + 1) _ rfl (OR7.out.alloc _) ⟨w7.heap.size, 0, none⟩ 1 1 [.int .i64 dm, .string ⟨#[]⟩, .string sp7, .string nm7, .slice x7 m7 q7] rfl rfl ?c1 ?c2 ?c3 ?c4 ?c5 ?_)
              case c1 => exact fun j u hj => itCells w7 _ _ _ _ _ j u hj
              case c2 => intro v hv; simp at hv; rcases hv with rfl | rfl | rfl | rfl | rfl <;> rfl
              case c3 => unfold maxLen; omega
              case c4 => omega
              case c5 => simp; omega
              intro v' w8 hown' hgr _ hat
              obtain ⟨a8, c8, rfl⟩ := owns_slice hown'
              have hb8 := below1 w7 (.cells #[.int .i64 dm, .string ⟨#[]⟩, .string sp7, .string nm7, .slice x7 m7 q7] 54)
              have hatt := O7.out.only (Only.below (P := fun _ => False) hb8) fun _ _ _ h => h
              have G8 := Lib.hid (G6.out.snocO (P := fun i => some i = some b) (x := ⟨dm, ⟨#[]⟩, sp7, nm7, es7⟩) ((Only.grown hg7).trans (Only.below hb8)) (fun i hi e => by simp only [Option.some.injEq] at e; omega)
                ⟨hatt.ats, hatt.own.imp id fun ⟨q, g1, g2, g3, g4⟩ => ⟨q, g1, g2, by have := hb8.size; omega, g4⟩⟩ (owns_below HRW7.out hb8) NIL7.out (by omega) hown' hgr (hat.imp id fun e => ⟨w7.heap.size + 1, by simpa using e, by simp⟩))
              have S8 := Lib.hid ((hs7.below hb8).grown hgr (fun g e => by have := (OR7.out.lt g e).1; omega))
              have E8 := Lib.hid (step_appended (grown_trans_row E6.out hg7) (Nat.le_refl _) OR7.out hgr)
              have D8 := Lib.hid (drawn_snoc DD.out (x := ⟨dm, ⟨#[]⟩, sp7, nm7, es7⟩) ⟨by simp only; omega, ⟨by show (ByteArray.empty).size ≤ 60; simp, hsp7, hnm7⟩, by have := O7.out.ats.len; simp only; omega, HSH7.out⟩)
              clear hown' hgr hat hatt hb8 hs7 hg7
              go_wp2
              go_roundw
              case rel => exact ⟨j - 1, m + 1, c8, a8, _, _, _, _, k7, vint (by omega), rfl, by omega, by omega, G8.out, D8.out, S8.out, E8.out⟩
              case measure => simp [intOf]; omega
    · obtain rfl : j = 0 := by omega
      go_wp2
      go_ret
      exact ⟨x, m + 1, q, l, A, N, C, k', rfl, GG.out, by omega, by omega, DD.out, by omega, SS.out, EE.out⟩
end Go.Proofs.YtjkmgpomcnplnaaGreatDoor
