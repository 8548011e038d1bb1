/- Rows of items that grow. -/
import Derived.Test.YtjkmgpomcnplnaaGreatDoorGS0
import Derived.Maps.AppendAt
import Derived.IntWalk
namespace Go.Proofs.YtjkmgpomcnplnaaGreatDoor
open Go.ChangeShapes Go.WideShapes Go.ChangeAt Go.RowKit
set_option linter.unusedVariables false
def flatA (l : List At) : List Value := (List.range (l.length * 2)).map fun j => if j % 2 = 0 then .string (l.getD (j / 2) dAt).name else .string (l.getD (j / 2) dAt).value
theorem flatA_length (l : List At) : (flatA l).length = l.length * 2 := by simp [flatA]
theorem flatA_get (l : List At) (j : Nat) (h : j < l.length * 2) : (flatA l)[j]? = some (if j % 2 = 0 then .string (l.getD (j / 2) dAt).name else .string (l.getD (j / 2) dAt).value) := by
  unfold flatA
  rw [List.getElem?_map, List.getElem?_range h]; rfl
theorem flatA_name (l : List At) (i : Nat) (h : i < l.length) : (flatA l)[i * 2]? = some (.string (l.getD i dAt).name) := by
  rw [flatA_get l _ (by omega), if_pos (by omega), show i * 2 / 2 = i by omega]
theorem flatA_value (l : List At) (i : Nat) (h : i < l.length) : (flatA l)[i * 2 + 1]? = some (.string (l.getD i dAt).value) := by
  rw [flatA_get l _ (by omega), if_neg (by omega), show (i * 2 + 1) / 2 = i by omega]
theorem flatA_one (l : List At) : ∀ u ∈ flatA l, u.oneCell' = true := by
  intro u hu
  unfold flatA at hu
  rw [List.mem_map] at hu
  obtain ⟨j, _, rfl⟩ := hu
  split <;> rfl
theorem AtsAt.flat {w : World} {x : Addr} {n c : Nat} {l : List At} (h : AtsAt w (some x) n c l) : ∀ j u, (flatA l)[j]? = some u → w.cell? (x.add j) = some u := by
  intro j u hj
  have hlt : j < l.length * 2 := by
    rcases Nat.lt_or_ge j (l.length * 2) with h1 | h1
    · exact h1
    · rw [List.getElem?_eq_none (by rw [flatA_length]; exact h1)] at hj; cases hj
  rcases h.row with e | ⟨b, o, ha, _, hc⟩
  · have := h.len; omega
  · simp only [Option.some.injEq] at ha
    subst ha
    rw [Addr.add_lit]
    rw [flatA_get l j hlt] at hj
    simp only [Option.some.injEq] at hj
    have hi := hc (j / 2) (by have := h.len; omega)
    by_cases h2 : j % 2 = 0
    · rw [if_pos h2] at hj
      rw [← hj, ← hi.1, show o + j / 2 * 2 = o + j by omega]
    · rw [if_neg h2] at hj
      rw [← hj, ← hi.2, show o + j / 2 * 2 + 1 = o + j by omega]
theorem ownAts_of {w : World} {B : Nat} {T : TypeId} {a : Option Addr} {n c : Nat} {l : List At} (h : w.ownsRow B T 2 (.slice a n c) n (flatA l)) (hn : n ≤ 9223372036854775807)
    (hs : ∀ i, (l.getD i dAt).name.size ≤ 9223372036854775807 ∧ (l.getD i dAt).value.size ≤ 9223372036854775807) : OwnAts w B w.heap.size a n c l := by
  have hl : l.length = n := by have := h.1; rw [flatA_length] at this; omega
  rcases h.2 with ⟨hv, h0⟩ | ⟨g, cap, cur, hv, hg, hb, _⟩
  · exact ⟨⟨hl, hn, hs, .inl h0⟩, .inl h0⟩
  · simp only [Value.slice.injEq] at hv
    obtain ⟨rfl, _, rfl⟩ := hv
    have hr := room_made h
    refine ⟨⟨hl, hn, hs, .inr ⟨g, 0, rfl, hr.1, fun i hi => ?_⟩⟩, .inr ⟨g, rfl, hg, hr.1, hr⟩⟩
    rw [Nat.zero_add, h.cellAt _ (by omega), h.cellAt _ (by omega)]
    exact ⟨flatA_name l i (by omega), flatA_value l i (by omega)⟩
theorem lit_behind2 (w : World) (o1 o2 : Obj) : (((w.alloc o1).alloc o2).alloc (.cells #[] 52)).ownsRow w.heap.size 52 2 (.slice (some ⟨w.heap.size + 1 + 1, 0, none⟩) 0 0) 0 [] := by
  have := World.ownsRow_lit (base := w.heap.size) (e := 52) (size := 2) ((w.alloc o1).alloc o2) #[] 0 (by simp; omega) (by unfold maxLen; omega) rfl
  simpa using this
theorem Only.grown {w w' : World} {r : Option Nat} (h : w.grownBy w' r) : Only (fun i => some i = r) w w' := ⟨h.os, h.tape, h.output, h.size, fun i hi hn => h.block i hi hn⟩
def cellI (l : List It) (A : Nat → Option Addr) (N C : Nat → Nat) (j : Nat) : Value :=
  if j % 5 = 0 then .int .i64 (l.getD (j / 5) dIt).depth else if j % 5 = 1 then .string (l.getD (j / 5) dIt).text else if j % 5 = 2 then .string (l.getD (j / 5) dIt).space else if j % 5 = 3 then .string (l.getD (j / 5) dIt).name else .slice (A (j / 5)) (N (j / 5)) (C (j / 5))
def flatI (l : List It) (A : Nat → Option Addr) (N C : Nat → Nat) : List Value := (List.range (l.length * 5)).map (cellI l A N C)
theorem flatI_length (l : List It) (A : Nat → Option Addr) (N C : Nat → Nat) : (flatI l A N C).length = l.length * 5 := by simp [flatI]
theorem flatI_get (l : List It) (A : Nat → Option Addr) (N C : Nat → Nat) (j : Nat) (h : j < l.length * 5) : (flatI l A N C)[j]? = some (cellI l A N C j) := by
  unfold flatI
  rw [List.getElem?_map, List.getElem?_range h]; rfl
def putA {α : Type} (n : Nat) (a : α) (A : Nat → α) (i : Nat) : α := if i = n then a else A i
theorem flatI_snoc (l : List It) (A : Nat → Option Addr) (N C : Nat → Nat) (x : It) (a : Option Addr) (n c : Nat) :
    flatI (l ++ [x]) (putA l.length a A) (putA l.length n N) (putA l.length c C) = flatI l A N C ++ [.int .i64 x.depth, .string x.text, .string x.space, .string x.name, .slice a n c] := by
  apply List.ext_getElem?
  intro j
  have hx : (l ++ [x]).getD l.length dIt = x := by simp [List.getD_eq_getElem?_getD]
  have hl : ∀ i, i < l.length → (l ++ [x]).getD i dIt = l.getD i dIt := fun i hi => by simp [List.getD_eq_getElem?_getD, List.getElem?_append_left hi]
  by_cases h1 : j < l.length * 5
  · have h2 : j / 5 < l.length := by omega
    rw [flatI_get _ _ _ _ _ (by simp; omega), List.getElem?_append_left (by rw [flatI_length]; exact h1), flatI_get _ _ _ _ _ h1]
    have g : ∀ {α : Type} (u : α) (F : Nat → α), putA l.length u F (j / 5) = F (j / 5) := fun u F => by unfold putA; rw [if_neg (by omega)]
    unfold cellI
    rw [hl _ h2, g, g, g]
  · by_cases h3 : j < (l.length + 1) * 5
    · rw [flatI_get _ _ _ _ _ (by simp; omega), List.getElem?_append_right (by rw [flatI_length]; omega), flatI_length]
      have h4 : j / 5 = l.length := by omega
      unfold cellI putA
      rw [h4, hx, if_pos rfl, if_pos rfl, if_pos rfl]
      obtain ⟨q, rfl⟩ : ∃ q, j = l.length * 5 + q := ⟨j - l.length * 5, by omega⟩
      have hq : q < 5 := by omega
      rw [show (l.length * 5 + q) % 5 = q by omega, Nat.add_sub_cancel_left]
      match q, hq with
      | 0, _ => rfl
      | 1, _ => rfl
      | 2, _ => rfl
      | 3, _ => rfl
      | 4, _ => rfl
    · rw [List.getElem?_eq_none (by rw [flatI_length]; simp; omega), List.getElem?_eq_none (by rw [List.length_append, flatI_length]; simp; omega)]
structure GrowIts (w : World) (B : Nat) (v : Value) (n : Nat) (l : List It) (A : Nat → Option Addr) (N C : Nat → Nat) : Prop where
  row : w.ownsRow B 54 5 v n (flatI l A N C)
  ats : ∀ i, i < l.length → OwnAts w B w.heap.size (A i) (N i) (C i) (l.getD i dIt).attrs ∧ (A i = none → C i = 0)
  apart : ∀ i, i < l.length → ∀ x, A i = some x → N i ≠ 0 → v.ownBlock ≠ some x.block
  each : ∀ i j, i < l.length → j < l.length → i ≠ j → ∀ x y, A i = some x → A j = some y → N i ≠ 0 → N j ≠ 0 → x.block ≠ y.block
theorem GrowIts.len {w : World} {B : Nat} {v : Value} {n : Nat} {l : List It} {A : Nat → Option Addr} {N C : Nat → Nat} (h : GrowIts w B v n l A N C) : l.length = n := by
  have := h.row.1
  rw [flatI_length] at this
  omega
theorem OwnAts.in {w : World} {lo hi : Nat} {a : Option Addr} {n c : Nat} {l : List At} (h : OwnAts w lo hi a n c l) {x : Addr} (hx : a = some x) (hn : n ≠ 0) : lo ≤ x.block ∧ x.block < hi := by
  obtain ⟨b, hb, h1, h2, _⟩ := h.own.resolve_left hn
  rw [hx] at hb
  cases hb
  exact ⟨h1, h2⟩
theorem GrowIts.below {w w' : World} {B : Nat} {v : Value} {n : Nat} {l : List It} {A : Nat → Option Addr} {N C : Nat → Nat} (h : GrowIts w B v n l A N C) (hb : Below w.heap.size w w') : GrowIts w' B v n l A N C := by
  refine ⟨owns_below h.row hb, fun i hi => ⟨?_, (h.ats i hi).2⟩, h.apart, h.each⟩
  have h1 := (h.ats i hi).1.only (Only.below (P := fun _ => False) hb) fun _ _ _ h => h
  exact ⟨h1.ats, h1.own.imp id fun ⟨b, g1, g2, g3, g4⟩ => ⟨b, g1, g2, by have := hb.size; omega, g4⟩⟩
theorem GrowIts.snoc {w w0 w1 : World} {B : Nat} {v v' : Value} {n : Nat} {l : List It} {A : Nat → Option Addr} {N C : Nat → Nat} {x : It} {a : Option Addr} {m c : Nat}
    (h : GrowIts w B v n l A N C) (hw : Below w.heap.size w w0) (ha : OwnAts w0 w.heap.size w0.heap.size a m c x.attrs) (hnil : a = none → c = 0) (hB : B ≤ w.heap.size)
    (hr : w1.ownsRow B 54 5 v' (n + 1) (flatI l A N C ++ [.int .i64 x.depth, .string x.text, .string x.space, .string x.name, .slice a m c])) (hg : w0.grownBy w1 v.ownBlock)
    (hv : v'.ownBlock = v.ownBlock ∨ ∃ g, v'.ownBlock = some g ∧ w0.heap.size ≤ g) :
    GrowIts w1 B v' (n + 1) (l ++ [x]) (putA l.length a A) (putA l.length m N) (putA l.length c C) := by
  have hon := Only.grown hg
  have hs0 := hw.size
  have hs1 := hg.size
  have hvlt : ∀ g, v.ownBlock = some g → g < w.heap.size := fun g hgb => (h.row.lt g hgb).2
  have hx : (l ++ [x]).getD l.length dIt = x := by simp [List.getD_eq_getElem?_getD]
  have hl : ∀ i, i < l.length → (l ++ [x]).getD i dIt = l.getD i dIt := fun i hi => by simp [List.getD_eq_getElem?_getD, List.getElem?_append_left hi]
  have hold : ∀ i, i < l.length → ∀ y, A i = some y → N i ≠ 0 → B ≤ y.block ∧ y.block < w.heap.size := fun i hi y hy hne => (h.ats i hi).1.in hy hne
  refine ⟨by rw [flatI_snoc]; exact hr, fun i hi => ?_, fun i hi y hy hne => ?_, fun i j hi hj hij y z hy hz hny hnz => ?_⟩
  · rw [List.length_append] at hi
    simp only [List.length_cons, List.length_nil] at hi
    by_cases e : i = l.length
    · subst e
      unfold putA
      rw [if_pos rfl, if_pos rfl, if_pos rfl, hx]
      have h1 := ha.only hon fun y hy hne hq => by
        have g1 := (ha.in hy hne).1
        have g2 := hvlt y.block hq.symm
        omega
      exact ⟨⟨h1.ats, h1.own.imp id fun ⟨b, g1, g2, g3, g4⟩ => ⟨b, g1, by omega, by omega, g4⟩⟩, hnil⟩
    · have hi2 : i < l.length := by omega
      unfold putA
      rw [if_neg e, if_neg e, if_neg e, hl i hi2]
      have h0 := (h.ats i hi2).1.only (Only.below (P := fun _ => False) hw) fun _ _ _ h => h
      have h1 := h0.only hon fun y hy hne hq => h.apart i hi2 y hy hne hq.symm
      exact ⟨⟨h1.ats, h1.own.imp id fun ⟨b, g1, g2, g3, g4⟩ => ⟨b, g1, g2, by omega, g4⟩⟩, (h.ats i hi2).2⟩
  · rw [List.length_append] at hi
    simp only [List.length_cons, List.length_nil] at hi
    unfold putA at hy hne
    by_cases e : i = l.length
    · rw [if_pos e] at hy hne
      have g1 := ha.in hy hne
      rcases hv with hv | ⟨g, hv, hg2⟩
      · rw [hv]
        intro hq
        have g2 := hvlt _ hq
        omega
      · rw [hv]
        intro hq
        simp only [Option.some.injEq] at hq
        omega
    · rw [if_neg e] at hy hne
      have g1 := hold i (by omega) y hy hne
      rcases hv with hv | ⟨g, hv, hg2⟩
      · rw [hv]
        exact h.apart i (by omega) y hy hne
      · rw [hv]
        intro hq
        simp only [Option.some.injEq] at hq
        omega
  · rw [List.length_append] at hi hj
    simp only [List.length_cons, List.length_nil] at hi hj
    unfold putA at hy hz hny hnz
    by_cases e : i = l.length
    · rw [if_pos e] at hy hny
      rw [if_neg (by omega)] at hz hnz
      have g1 := ha.in hy hny
      have g2 := hold j (by omega) z hz hnz
      omega
    · rw [if_neg e] at hy hny
      have g2 := hold i (by omega) y hy hny
      by_cases e2 : j = l.length
      · rw [if_pos e2] at hz hnz
        have g1 := ha.in hz hnz
        omega
      · rw [if_neg e2] at hz hnz
        exact h.each i j (by omega) (by omega) hij y z hy hz hny hnz
theorem GrowIts.snocO {w w0 w1 : World} {B : Nat} {P : Nat → Prop} {v v' : Value} {n : Nat} {l : List It} {A : Nat → Option Addr} {N C : Nat → Nat} {x : It} {a : Option Addr} {m c : Nat}
    (h : GrowIts w B v n l A N C) (hw : Only P w w0) (hP : ∀ i, B ≤ i → ¬ P i) (ha : OwnAts w0 w.heap.size w0.heap.size a m c x.attrs) (hnil : a = none → c = 0) (hB : B ≤ w.heap.size)
    (hr : w1.ownsRow B 54 5 v' (n + 1) (flatI l A N C ++ [.int .i64 x.depth, .string x.text, .string x.space, .string x.name, .slice a m c])) (hg : w0.grownBy w1 v.ownBlock)
    (hv : v'.ownBlock = v.ownBlock ∨ ∃ g, v'.ownBlock = some g ∧ w0.heap.size ≤ g) :
    GrowIts w1 B v' (n + 1) (l ++ [x]) (putA l.length a A) (putA l.length m N) (putA l.length c C) := by
  have hon := Only.grown hg
  have hs0 := hw.size
  have hs1 := hg.size
  have hvlt : ∀ g, v.ownBlock = some g → g < w.heap.size := fun g hgb => (h.row.lt g hgb).2
  have hx : (l ++ [x]).getD l.length dIt = x := by simp [List.getD_eq_getElem?_getD]
  have hl : ∀ i, i < l.length → (l ++ [x]).getD i dIt = l.getD i dIt := fun i hi => by simp [List.getD_eq_getElem?_getD, List.getElem?_append_left hi]
  have hold : ∀ i, i < l.length → ∀ y, A i = some y → N i ≠ 0 → B ≤ y.block ∧ y.block < w.heap.size := fun i hi y hy hne => (h.ats i hi).1.in hy hne
  refine ⟨by rw [flatI_snoc]; exact hr, fun i hi => ?_, fun i hi y hy hne => ?_, fun i j hi hj hij y z hy hz hny hnz => ?_⟩
  · rw [List.length_append] at hi
    simp only [List.length_cons, List.length_nil] at hi
    by_cases e : i = l.length
    · subst e
      unfold putA
      rw [if_pos rfl, if_pos rfl, if_pos rfl, hx]
      have h1 := ha.only hon fun y hy hne hq => by
        have g1 := (ha.in hy hne).1
        have g2 := hvlt y.block hq.symm
        omega
      exact ⟨⟨h1.ats, h1.own.imp id fun ⟨b, g1, g2, g3, g4⟩ => ⟨b, g1, by omega, by omega, g4⟩⟩, hnil⟩
    · have hi2 : i < l.length := by omega
      unfold putA
      rw [if_neg e, if_neg e, if_neg e, hl i hi2]
      have h0 := (h.ats i hi2).1.only hw fun y hy hne => hP _ ((h.ats i hi2).1.in hy hne).1
      have h1 := h0.only hon fun y hy hne hq => h.apart i hi2 y hy hne hq.symm
      exact ⟨⟨h1.ats, h1.own.imp id fun ⟨b, g1, g2, g3, g4⟩ => ⟨b, g1, g2, by omega, g4⟩⟩, (h.ats i hi2).2⟩
  · rw [List.length_append] at hi
    simp only [List.length_cons, List.length_nil] at hi
    unfold putA at hy hne
    by_cases e : i = l.length
    · rw [if_pos e] at hy hne
      have g1 := ha.in hy hne
      rcases hv with hv | ⟨g, hv, hg2⟩
      · rw [hv]
        intro hq
        have g2 := hvlt _ hq
        omega
      · rw [hv]
        intro hq
        simp only [Option.some.injEq] at hq
        omega
    · rw [if_neg e] at hy hne
      have g1 := hold i (by omega) y hy hne
      rcases hv with hv | ⟨g, hv, hg2⟩
      · rw [hv]
        exact h.apart i (by omega) y hy hne
      · rw [hv]
        intro hq
        simp only [Option.some.injEq] at hq
        omega
  · rw [List.length_append] at hi hj
    simp only [List.length_cons, List.length_nil] at hi hj
    unfold putA at hy hz hny hnz
    by_cases e : i = l.length
    · rw [if_pos e] at hy hny
      rw [if_neg (by omega)] at hz hnz
      have g1 := ha.in hy hny
      have g2 := hold j (by omega) z hz hnz
      omega
    · rw [if_neg e] at hy hny
      have g2 := hold i (by omega) y hy hny
      by_cases e2 : j = l.length
      · rw [if_pos e2] at hz hnz
        have g1 := ha.in hz hnz
        omega
      · rw [if_neg e2] at hz hnz
        exact h.each i j (by omega) (by omega) hij y z hy hz hny hnz
theorem GrowIts.own {w : World} {B : Nat} {a : Option Addr} {n c : Nat} {l : List It} {A : Nat → Option Addr} {N C : Nat → Nat} (h : GrowIts w B (.slice a n c) n l A N C) (hn : n ≤ 1048576)
    (hit : ∀ i, i < n → (-9223372036854775808 ≤ (l.getD i dIt).depth ∧ (l.getD i dIt).depth ≤ 9223372036854775807) ∧ ((l.getD i dIt).text.size ≤ 9223372036854775807 ∧ (l.getD i dIt).space.size ≤ 9223372036854775807 ∧ (l.getD i dIt).name.size ≤ 9223372036854775807)) :
    OwnIts w B w.heap.size a n c l := by
  refine ⟨h.len, hn, hit, ?_⟩
  have hlen := h.len
  rcases h.row.2 with ⟨hv, h0⟩ | ⟨g, cap, cur, hv, hg, hb, _⟩
  · exact .inl h0
  · simp only [Value.slice.injEq] at hv
    obtain ⟨rfl, _, rfl⟩ := hv
    have hr := room_made h.row
    refine .inr ⟨g, A, N, C, rfl, hg, hr.1, hr, fun i hi => ⟨?_, (h.ats i (by omega)).1⟩, fun i hi x hx hne hq => h.apart i (by omega) x hx hne (by simp [Value.ownBlock, hq]), fun i j hi hj => h.each i j (by omega) (by omega)⟩
    have hc : ∀ q, q < 5 → w.cell? ⟨g, i * 5 + q, none⟩ = some (cellI l A N C (i * 5 + q)) := fun q hq => by
      rw [h.row.cellAt _ (by omega), flatI_get _ _ _ _ _ (by omega)]
    refine ⟨?_, ?_, ?_, ?_, ?_, (h.ats i (by omega)).2⟩
    · have := hc 0 (by omega); unfold cellI at this; rwa [show (i * 5 + 0) % 5 = 0 by omega, if_pos rfl, show (i * 5 + 0) / 5 = i by omega] at this
    · have := hc 1 (by omega); unfold cellI at this; rwa [show (i * 5 + 1) % 5 = 1 by omega, if_neg (by omega), if_pos rfl, show (i * 5 + 1) / 5 = i by omega] at this
    · have := hc 2 (by omega); unfold cellI at this; rwa [show (i * 5 + 2) % 5 = 2 by omega, if_neg (by omega), if_neg (by omega), if_pos rfl, show (i * 5 + 2) / 5 = i by omega] at this
    · have := hc 3 (by omega); unfold cellI at this; rwa [show (i * 5 + 3) % 5 = 3 by omega, if_neg (by omega), if_neg (by omega), if_neg (by omega), if_pos rfl, show (i * 5 + 3) / 5 = i by omega] at this
    · have := hc 4 (by omega); unfold cellI at this; rwa [show (i * 5 + 4) % 5 = 4 by omega, if_neg (by omega), if_neg (by omega), if_neg (by omega), if_neg (by omega), show (i * 5 + 4) / 5 = i by omega] at this
theorem lit_item (w : World) : (w.alloc (.cells #[] 54)).ownsRow w.heap.size 54 5 (.slice (some ⟨w.heap.size, 0, none⟩) 0 0) 0 [] := by
  have := World.ownsRow_lit (base := w.heap.size) (e := 54) (size := 5) w #[] 0 (Nat.le_refl _) (by unfold maxLen; omega) rfl
  simpa using this
def movedTo (l : List It) (f k : Nat) (by_ : Int) : List It := (List.range (k - f)).map fun i => ⟨(l.getD (f + i) dIt).depth + by_, (l.getD (f + i) dIt).text, (l.getD (f + i) dIt).space, (l.getD (f + i) dIt).name, (l.getD (f + i) dIt).attrs⟩
theorem movedTo_length (l : List It) (f k : Nat) (by_ : Int) : (movedTo l f k by_).length = k - f := by simp [movedTo]
theorem movedTo_step (l : List It) {f k : Nat} (h : f ≤ k) (by_ : Int) : movedTo l f (k + 1) by_ = movedTo l f k by_ ++ [⟨(l.getD k dIt).depth + by_, (l.getD k dIt).text, (l.getD k dIt).space, (l.getD k dIt).name, (l.getD k dIt).attrs⟩] := by
  unfold movedTo
  rw [show k + 1 - f = (k - f) + 1 by omega, List.range_succ, List.map_append, List.map_cons, List.map_nil, show f + (k - f) = k by omega]
theorem movedTo_get (l : List It) (f k : Nat) (by_ : Int) (i : Nat) (h : i < k - f) : (movedTo l f k by_).getD i dIt = ⟨(l.getD (f + i) dIt).depth + by_, (l.getD (f + i) dIt).text, (l.getD (f + i) dIt).space, (l.getD (f + i) dIt).name, (l.getD (f + i) dIt).attrs⟩ := by
  unfold movedTo
  rw [List.getD_eq_getElem?_getD, List.getElem?_map, List.getElem?_range h]; rfl
def addAt (es : List At) (nm s : ByteArray) : List At := if s.toList.isEmpty then es else es ++ [⟨nm, s⟩]
theorem flatA_more (es : List At) (nm s : ByteArray) : flatA (es ++ [⟨nm, s⟩]) = flatA es ++ [.string nm, .string s] := by
  apply List.ext_getElem?
  intro j
  by_cases h1 : j < es.length * 2
  · rw [flatA_get _ _ (by simp; omega), List.getElem?_append_left (by rw [flatA_length]; exact h1), flatA_get _ _ h1]
    have e : (es ++ [(⟨nm, s⟩ : At)]).getD (j / 2) dAt = es.getD (j / 2) dAt := by rw [List.getD_eq_getElem?_getD, List.getElem?_append_left (by omega), ← List.getD_eq_getElem?_getD]
    rw [e]
  · by_cases h2 : j < (es.length + 1) * 2
    · rw [flatA_get _ _ (by simp; omega), List.getElem?_append_right (by rw [flatA_length]; omega), flatA_length]
      have e : (es ++ [(⟨nm, s⟩ : At)]).getD (j / 2) dAt = ⟨nm, s⟩ := by
        rw [List.getD_eq_getElem?_getD, List.getElem?_append_right (by omega), show j / 2 - es.length = 0 by omega]; rfl
      rw [e]
      rcases Nat.lt_or_ge j (es.length * 2 + 1) with h3 | h3
      · rw [show j - es.length * 2 = 0 by omega, if_pos (by omega)]; rfl
      · rw [show j - es.length * 2 = 1 by omega, if_neg (by omega)]; rfl
    · rw [List.getElem?_eq_none (by rw [flatA_length]; simp; omega), List.getElem?_eq_none (by rw [List.length_append, flatA_length]; simp; omega)]
theorem atCells (W : World) (x y : ByteArray) (j : Nat) (u : Value) (hj : [Value.string x, Value.string y][j]? = some u) : ((W.alloc (.cells #[.string x, .string y] 52))).cell? (Addr.add ⟨W.heap.size, 0, none⟩ j) = some u := by
  match j, hj with
  | 0, hj => simp at hj; subst hj; simp [Addr.add]
  | 1, hj => simp at hj; subst hj; simp [Addr.add]
theorem itemCells (W : World) (v0 v1 v2 v3 v4 : Value) (j : Nat) (u : Value) (hj : [v0, v1, v2, v3, v4][j]? = some u) : ((W.alloc (.cells #[v0, v1, v2, v3, v4] 54))).cell? (Addr.add ⟨W.heap.size, 0, none⟩ j) = some u := by
  match j, hj with
  | 0, hj => simp at hj; subst hj; simp [Addr.add]
  | 1, hj => simp at hj; subst hj; simp [Addr.add]
  | 2, hj => simp at hj; subst hj; simp [Addr.add]
  | 3, hj => simp at hj; subst hj; simp [Addr.add]
  | 4, hj => simp at hj; subst hj; simp [Addr.add]
def AttrRes (w : World) (B : Nat) (v : Value) (es : List At) (en : Ending) (w' : World) : Prop :=
  ∃ (a : Option Addr) (n c : Nat), en = .returned (.slice a n c) ∧ w'.ownsRow B 52 2 (.slice a n c) n (flatA es) ∧ w.grownBy w' v.ownBlock ∧ ((Value.slice a n c).ownBlock = v.ownBlock ∨ ∃ g, (Value.slice a n c).ownBlock = some g ∧ w.heap.size ≤ g)
set_option maxHeartbeats 1600000 in
theorem l7Attr_any (B : Nat) (a : Option Addr) (n c : Nat) (es : List At) (nm s : ByteArray) (w : World) (hB : B ≤ w.heap.size) (hn : n ≤ 1000) (h : w.ownsRow B 52 2 (.slice a n c) n (flatA es)) :
    Calls Tryz.prog 65 #[.slice a n c, .string nm, .string s] w (AttrRes w B (.slice a n c) (addAt es nm s)) := by
  obtain ⟨i0, hi, hz0, hi1, hz2⟩ := info_parts attrInfo
  have H := Lib.hid h
  unfold AttrRes addAt
  clear h
  cases he : s.toList.isEmpty
  · rw [if_neg (by simp)]
    go_enter Tryz.func65, Tryz.ntmps65
    go_wp2_with (at_builtin; refine wpList_append_own_at _ rfl _ _ 49 rfl B 52 i0 (.agg #[.string ByteArray.empty, .string ByteArray.empty]) 2 32 Tryz.underlying49 hi hz0 hi1 hz2 rfl (by decide) _ n _ rfl (owns_below H.out (below1 _ _)) ⟨w.heap.size, 0, none⟩ 1 1 [.string nm, .string s] rfl rfl ?c1 ?c2 ?c3 ?c4 ?c5 ?_)
    case c1 => exact atCells w nm s
    case c2 => intro v hv; simp at hv; rcases hv with rfl | rfl <;> rfl
    case c3 => unfold maxLen; omega
    case c4 => omega
    case c5 => simp; omega
    intro v' w1 hown hgr _ hat
    obtain ⟨a8, c8, rfl⟩ := owns_slice hown
    have R : Hid (w1.ownsRow B 52 2 (.slice a8 (n + 1) c8) (n + 1) (flatA (es ++ [⟨nm, s⟩]))) := Lib.hid (by rw [flatA_more]; exact hown)
    have G := Lib.hid (show w.grownBy w1 (Value.slice a n c).ownBlock from grown_trans_row ((fun h => (⟨h.os, h.tape, h.output, h.size, fun i hi _ => h.block i hi⟩ : w.grownBy _ (Value.slice a n c).ownBlock)) (below1 w (.cells #[.string nm, .string s] 52))) hgr)
    have AT := Lib.hid (hat.imp id fun e => (⟨w.heap.size + 1, by simpa using e, by omega⟩ : ∃ g, (Value.slice a8 (n + 1) c8).ownBlock = some g ∧ w.heap.size ≤ g))
    clear hown hgr hat
    go_wp2
    go_ret
    exact ⟨_, _, _, rfl, R.out, G.out, AT.out⟩
  · rw [if_pos rfl]
    go_enter Tryz.func65, Tryz.ntmps65
    go_wp2
    go_ret
    exact ⟨a, n, c, rfl, H.out, World.grownBy.refl _ _, .inl rfl⟩
def leafL (d : Int) (sp nm t : ByteArray) : List It := ⟨d, ByteArray.empty, sp, nm, []⟩ :: (if t.toList.isEmpty then [] else [⟨d + 1, t, ByteArray.empty, ByteArray.empty, []⟩])
def GrownRes (w : World) (B : Nat) (v : Value) (l : List It) (en : Ending) (w' : World) : Prop :=
  ∃ (a : Option Addr) (n c : Nat) (A : Nat → Option Addr) (N C : Nat → Nat), en = .returned (.slice a n c) ∧ GrowIts w' B (.slice a n c) n l A N C ∧ w.grownBy w' v.ownBlock ∧ ((Value.slice a n c).ownBlock = v.ownBlock ∨ ∃ g, (Value.slice a n c).ownBlock = some g ∧ w.heap.size ≤ g)
theorem bareAts (w : World) (lo hi : Nat) : OwnAts w lo hi none 0 0 [] := ⟨⟨rfl, by omega, fun i => by simp [dAt], .inl rfl⟩, .inl rfl⟩
theorem grown_made {w : World} (o : Obj) (r : Option Nat) : w.grownBy (w.alloc o) r := (fun h => ⟨h.os, h.tape, h.output, h.size, fun i hi _ => h.block i hi⟩ : Below w.heap.size w (w.alloc o) → _) (below1 w o)
theorem grown_in {a b c : World} {x : Option Nat} {g : Nat} (h : a.grownBy b x) (hg : b.grownBy c (some g)) (hr : a.heap.size ≤ g) : a.grownBy c x :=
  ⟨hg.os.trans h.os, hg.tape.trans h.tape, hg.output.trans h.output, Nat.le_trans h.size hg.size, fun i hi hne => (hg.block i (Nat.lt_of_lt_of_le hi h.size) (fun e => by cases e; omega)).trans (h.block i hi hne)⟩
def GrownResA (w : World) (B : Nat) (v : Value) (k : Nat) (A : Nat → Option Addr) (N C : Nat → Nat) (l : List It) (en : Ending) (w' : World) : Prop :=
  ∃ (a : Option Addr) (n c : Nat) (A' : Nat → Option Addr) (N' C' : Nat → Nat), en = .returned (.slice a n c) ∧ GrowIts w' B (.slice a n c) n l A' N' C' ∧ w.grownBy w' v.ownBlock ∧ ((Value.slice a n c).ownBlock = v.ownBlock ∨ ∃ g, (Value.slice a n c).ownBlock = some g ∧ w.heap.size ≤ g) ∧ ∀ i, i < k → A' i = A i ∧ N' i = N i ∧ C' i = C i
theorem putA_front {α : Type} {n : Nat} {a : α} {A : Nat → α} {i : Nat} (h : i < n) : putA n a A i = A i := by unfold putA; rw [if_neg (by omega)]
set_option maxRecDepth 100000 in
set_option maxHeartbeats 3200000 in
theorem l7LeafA_any (B : Nat) (a : Option Addr) (n c : Nat) (l : List It) (A : Nat → Option Addr) (N C : Nat → Nat) (d : Int) (sp nm t : ByteArray) (w : World) (hB : B ≤ w.heap.size) (hn : n ≤ 1000) (hd : -1000 ≤ d ∧ d ≤ 1000) (h : GrowIts w B (.slice a n c) n l A N C) :
    Calls Tryz.prog 38 #[.slice a n c, .int .i64 d, .string sp, .string nm, .string t] w (GrownResA w B (.slice a n c) l.length A N C (l ++ leafL d sp nm t)) := by
  obtain ⟨i0, hi, hz0, hi1, hz2⟩ := info_parts itemInfo
  have hw1 : IntKind.i64.wrap (d + 1) = d + 1 := IntWalk.i64_in _ (by omega)
  have hw2 : wrap64 (d + 1) = d + 1 := IntWalk.wrap64_in _ (by omega)
  have H := Lib.hid h
  unfold GrownResA leafL
  obtain ⟨tl, ht⟩ : ∃ tl, (if t.toList.isEmpty then [] else [(⟨d + 1, t, ByteArray.empty, ByteArray.empty, []⟩ : It)]) = tl := ⟨_, rfl⟩
  rw [ht]
  have HTL := Lib.hid ht
  clear h ht
  go_enter Tryz.func38, Tryz.ntmps38
  go_wp2_with (at_builtin; refine wpList_append_own_at _ rfl _ _ 24 rfl B 54 i0 (.agg #[.int .i64 0, .string ByteArray.empty, .string ByteArray.empty, .string ByteArray.empty, .slice none 0 0]) 5 80 Tryz.underlying24 hi hz0 hi1 hz2 rfl (by decide) _ n _ rfl (H.out.row.alloc _) ⟨w.heap.size, 0, none⟩ 1 1 [.int .i64 d, .string ⟨#[]⟩, .string sp, .string nm, .slice none 0 0] rfl rfl ?c1 ?c2 ?c3 ?c4 ?c5 ?_)
  case c1 => exact fun j u hj => itemCells w _ _ _ _ _ j u hj
  case c2 => intro v hv; simp at hv; rcases hv with rfl | rfl | rfl | rfl | rfl <;> rfl
  case c3 => unfold maxLen; omega
  case c4 => omega
  case c5 => simp; omega
  intro v' w1 hown hgr _ hat
  obtain ⟨a1, c1, rfl⟩ := owns_slice hown
  have G1 := Lib.hid (H.out.snoc (x := ⟨d, ⟨#[]⟩, sp, nm, []⟩) (below1 w (.cells #[.int .i64 d, .string ⟨#[]⟩, .string sp, .string nm, .slice none 0 0] 54)) (bareAts _ _ _) (fun _ => rfl) hB hown hgr (hat.imp id fun e => ⟨w.heap.size + 1, by simpa using e, by simp⟩))
  have E1 := Lib.hid (grown_trans_row (grown_made (w := w) (.cells #[.int .i64 d, .string ⟨#[]⟩, .string sp, .string nm, .slice none 0 0] 54) (Value.slice a n c).ownBlock) hgr)
  have T1 := Lib.hid (hat.imp id fun e => (⟨w.heap.size + 1, by simpa using e, by omega⟩ : ∃ g, (Value.slice a1 (n + 1) c1).ownBlock = some g ∧ w.heap.size ≤ g))
  have hz1 : w.heap.size + 1 ≤ w1.heap.size := by have := hgr.size; simpa using this
  clear hown hgr hat
  cases he : t.toList.isEmpty
  · go_wp2_with (at_builtin; refine wpList_append_own_at _ rfl _ _ 24 rfl B 54 i0 (.agg #[.int .i64 0, .string ByteArray.empty, .string ByteArray.empty, .string ByteArray.empty, .slice none 0 0]) 5 80 Tryz.underlying24 hi hz0 hi1 hz2 rfl (by decide) _ (n + 1) _ rfl (G1.out.row.alloc _) ⟨w1.heap.size, 0, none⟩ 1 1 [.int .i64 (d + 1), .string t, .string ⟨#[]⟩, .string ⟨#[]⟩, .slice none 0 0] rfl rfl ?c1 ?c2 ?c3 ?c4 ?c5 ?_)
    case c1 => exact fun j u hj => itemCells w1 _ _ _ _ _ j u hj
    case c2 => intro v hv; simp at hv; rcases hv with rfl | rfl | rfl | rfl | rfl <;> rfl
    case c3 => unfold maxLen; omega
    case c4 => omega
    case c5 => simp; omega
    intro v' w2 hown hgr _ hat
    obtain ⟨a2, c2, rfl⟩ := owns_slice hown
    have G2 := Lib.hid (G1.out.snoc (x := ⟨d + 1, t, ⟨#[]⟩, ⟨#[]⟩, []⟩) (below1 w1 (.cells #[.int .i64 (d + 1), .string t, .string ⟨#[]⟩, .string ⟨#[]⟩, .slice none 0 0] 54)) (bareAts _ _ _) (fun _ => rfl) (by omega) hown hgr (hat.imp id fun e => ⟨w1.heap.size + 1, by simpa using e, by simp⟩))
    have E2 : Hid (w.grownBy w2 (Value.slice a n c).ownBlock) := Lib.hid (by
      have hg2 := grown_trans_row (grown_made (w := w1) (.cells #[.int .i64 (d + 1), .string t, .string ⟨#[]⟩, .string ⟨#[]⟩, .slice none 0 0] 54) (Value.slice a1 (n + 1) c1).ownBlock) hgr
      rcases T1.out with e | ⟨g, e, hg⟩
      · rw [e] at hg2
        exact grown_trans_row E1.out hg2
      · rw [e] at hg2
        exact grown_in E1.out hg2 hg)
    have T2 : Hid ((Value.slice a2 (n + 1 + 1) c2).ownBlock = (Value.slice a n c).ownBlock ∨ ∃ g, (Value.slice a2 (n + 1 + 1) c2).ownBlock = some g ∧ w.heap.size ≤ g) := Lib.hid (by
      rcases hat with e | e
      · rw [e]; exact T1.out
      · exact .inr ⟨w1.heap.size + 1, by simpa using e, by omega⟩)
    clear hown hgr hat
    go_wp2
    go_ret
    have G3 := G2.out
    have htl := HTL.out
    rw [if_neg (by rw [he]; simp)] at htl
    rw [← htl]
    rw [List.append_assoc] at G3
    exact ⟨_, _, _, _, _, _, rfl, G3, E2.out, T2.out, fun i hi => ⟨by rw [putA_front (by rw [List.length_append]; omega), putA_front hi], by rw [putA_front (by rw [List.length_append]; omega), putA_front hi], by rw [putA_front (by rw [List.length_append]; omega), putA_front hi]⟩⟩
  · go_wp2
    go_ret
    have htl := HTL.out
    rw [if_pos he] at htl
    rw [← htl]
    exact ⟨_, _, _, _, _, _, rfl, G1.out, E1.out, T1.out, fun i hi => ⟨putA_front hi, putA_front hi, putA_front hi⟩⟩
theorem l7Leaf_any (B : Nat) (a : Option Addr) (n c : Nat) (l : List It) (A : Nat → Option Addr) (N C : Nat → Nat) (d : Int) (sp nm t : ByteArray) (w : World) (hB : B ≤ w.heap.size) (hn : n ≤ 1000) (hd : -1000 ≤ d ∧ d ≤ 1000) (h : GrowIts w B (.slice a n c) n l A N C) :
    Calls Tryz.prog 38 #[.slice a n c, .int .i64 d, .string sp, .string nm, .string t] w (GrownRes w B (.slice a n c) (l ++ leafL d sp nm t)) :=
  (l7LeafA_any B a n c l A N C d sp nm t w hB hn hd h).mono fun _ _ ⟨a1, n1, c1, A1, N1, C1, e, h1, h2, h3, _⟩ => ⟨a1, n1, c1, A1, N1, C1, e, h1, h2, h3⟩
def AtsOwn (w : World) (l : List At) (e : Ending) (w' : World) : Prop := ∃ a n c, e = .returned (.slice a n c) ∧ OwnAts w' w.heap.size w'.heap.size a n c l ∧ (a = none → c = 0) ∧ Below w.heap.size w w'
def ItOwn (w : World) (x : It) (e : Ending) (w' : World) : Prop := ∃ a n c, e = .returned (.agg #[.int .i64 x.depth, .string x.text, .string x.space, .string x.name, .slice a n c]) ∧ OwnAts w' w.heap.size w'.heap.size a n c x.attrs ∧ (a = none → c = 0) ∧ Below w.heap.size w w'
def ItsOwn (w : World) (l : List It) (e : Ending) (w' : World) : Prop := ∃ a n c, e = .returned (.slice a n c) ∧ OwnIts w' w.heap.size w'.heap.size a n c l ∧ Below w.heap.size w w'
set_option maxRecDepth 100000 in
set_option maxHeartbeats 1600000 in
theorem specItem_any (b o : Nat) (x : It) (by_ : Int) (w : World) (hd : -1000 ≤ x.depth ∧ x.depth ≤ 1000) (hby : -1000 ≤ by_ ∧ by_ ≤ 1000) (hn : x.attrs.length ≤ 1048576) (a4 : Option Addr) (n c4 : Nat) (hc4 : w.cell? ⟨b, o + 4, none⟩ = some (.slice a4 n c4)) (hnil : a4 = none → c4 = 0) (hat : AtsAt w a4 n c4 x.attrs) (h : ItAt w b o x) :
    Calls Tryz.prog 109 #[.pointer (some ⟨b, o, none⟩), .int .i64 by_] w (ItOwn w ⟨x.depth + by_, x.text, x.space, x.name, x.attrs⟩) := by
  obtain ⟨i0, hi, hz0, hz1, hz2⟩ := info_parts attrInfo
  have d0 := h.c0
  have d1 := h.c1
  have d2 := h.c2
  have d3 := h.c3
  have d4 := hc4
  have hlt := h.lt
  obtain ⟨d, s, t, u, l⟩ := x
  dsimp only at hd hn d0 d1 d2 d3 hat ⊢
  have HAT := Lib.hid hat
  have hn' : n ≤ 1048576 := by have := hat.len; omega
  have HL := Lib.hid hat.len
  clear h hat hc4
  have hb1 : b < w.heap.size + 1 := by omega
  have hb2 : b < w.heap.size + 1 + 1 := by omega
  cases a4 with
  | none =>
    obtain rfl : n = 0 := by
      rcases HAT.out.row with e | ⟨b5, o5, e5, _⟩
      · exact e
      · cases e5
    obtain rfl : c4 = 0 := hnil rfl
    obtain rfl : l = [] := List.length_eq_zero_iff.1 HL.out
    clear hnil
    go_enter Tryz.func109, Tryz.ntmps109
    go_wp2
    exact bodyPost_ret (v := .agg #[.int .i64 (d + by_), .string s, .string t, .string u, .slice (some ⟨w.heap.size + 1 + 1, 0, none⟩) 0 0]) (by simp [results, Tryz.results109, go_sem]) rfl
      ⟨_, _, _, rfl, ⟨⟨rfl, by omega, (fun i => by simp [dAt]), .inl rfl⟩, .inl rfl⟩, (fun e => by cases e), below3 _ _ _ _⟩
  | some ad =>
    go_enter Tryz.func109, Tryz.ntmps109
    go_wp2_with (at_builtin; refine wpList_append_own_at _ rfl _ _ 49 rfl w.heap.size 52 i0 _ 2 32 Tryz.underlying49 hi hz0 hz1 hz2 rfl (by decide) _ 0 [] rfl ?c0 ad n c4 (flatA l) rfl ?c6 ?c1 ?c2 ?c3 ?c4 ?c5 ?_)
    case c0 => exact lit_behind2 w _ _
    case c6 => rw [flatA_length, HL.out]
    case c1 => exact (HAT.out.below (below3 _ _ _ _)).flat
    case c2 => exact flatA_one l
    case c3 => unfold maxLen; omega
    case c4 => omega
    case c5 => simp; omega
    intro v' w1 hown hgrow hnn hblk
    obtain ⟨a', c', rfl⟩ := owns_slice hown
    have HBLK := Lib.hid hblk
    have HNN := Lib.hid hnn
    clear hblk hnn
    have HOWN := Lib.hid hown
    have hon := Only.grown hgrow
    have HON := Lib.hid hon
    have p00 : w1.cell? ⟨w.heap.size, 0, none⟩ = some (.int .i64 0) := (hon.cell (p := ⟨w.heap.size, 0, none⟩) (by simp; omega) (by simp [Value.ownBlock]; omega)).trans (by go_simp)
    have p10 : w1.cell? ⟨w.heap.size + 1, 0, none⟩ = some (.int .i64 (d + by_)) := (hon.cell (p := ⟨w.heap.size + 1, 0, none⟩) (by simp) (by simp [Value.ownBlock])).trans (by go_simp)
    have f00 : w1.frozen? ⟨w.heap.size, 0, none⟩ = false := (hon.frozen (p := ⟨w.heap.size, 0, none⟩) (by simp; omega) (by simp [Value.ownBlock]; omega)).trans (by go_simp)
    have p01 : w1.cell? ⟨w.heap.size, 1, none⟩ = some (.string { data := #[] }) := (hon.cell (p := ⟨w.heap.size, 1, none⟩) (by simp; omega) (by simp [Value.ownBlock]; omega)).trans (by go_simp)
    have p11 : w1.cell? ⟨w.heap.size + 1, 1, none⟩ = some (.string s) := (hon.cell (p := ⟨w.heap.size + 1, 1, none⟩) (by simp) (by simp [Value.ownBlock])).trans (by go_simp)
    have f01 : w1.frozen? ⟨w.heap.size, 1, none⟩ = false := (hon.frozen (p := ⟨w.heap.size, 1, none⟩) (by simp; omega) (by simp [Value.ownBlock]; omega)).trans (by go_simp)
    have p02 : w1.cell? ⟨w.heap.size, 2, none⟩ = some (.string { data := #[] }) := (hon.cell (p := ⟨w.heap.size, 2, none⟩) (by simp; omega) (by simp [Value.ownBlock]; omega)).trans (by go_simp)
    have p12 : w1.cell? ⟨w.heap.size + 1, 2, none⟩ = some (.string t) := (hon.cell (p := ⟨w.heap.size + 1, 2, none⟩) (by simp) (by simp [Value.ownBlock])).trans (by go_simp)
    have f02 : w1.frozen? ⟨w.heap.size, 2, none⟩ = false := (hon.frozen (p := ⟨w.heap.size, 2, none⟩) (by simp; omega) (by simp [Value.ownBlock]; omega)).trans (by go_simp)
    have p03 : w1.cell? ⟨w.heap.size, 3, none⟩ = some (.string { data := #[] }) := (hon.cell (p := ⟨w.heap.size, 3, none⟩) (by simp; omega) (by simp [Value.ownBlock]; omega)).trans (by go_simp)
    have p13 : w1.cell? ⟨w.heap.size + 1, 3, none⟩ = some (.string u) := (hon.cell (p := ⟨w.heap.size + 1, 3, none⟩) (by simp) (by simp [Value.ownBlock])).trans (by go_simp)
    have f03 : w1.frozen? ⟨w.heap.size, 3, none⟩ = false := (hon.frozen (p := ⟨w.heap.size, 3, none⟩) (by simp; omega) (by simp [Value.ownBlock]; omega)).trans (by go_simp)
    have p04 : w1.cell? ⟨w.heap.size, 4, none⟩ = some (.slice none 0 0) := (hon.cell (p := ⟨w.heap.size, 4, none⟩) (by simp; omega) (by simp [Value.ownBlock]; omega)).trans (by go_simp)
    have p14 : w1.cell? ⟨w.heap.size + 1, 4, none⟩ = some (.slice (some ad) n c4) := (hon.cell (p := ⟨w.heap.size + 1, 4, none⟩) (by simp) (by simp [Value.ownBlock])).trans (by go_simp)
    have f04 : w1.frozen? ⟨w.heap.size, 4, none⟩ = false := (hon.frozen (p := ⟨w.heap.size, 4, none⟩) (by simp; omega) (by simp [Value.ownBlock]; omega)).trans (by go_simp)
    have f14 : w1.frozen? ⟨w.heap.size + 1, 4, none⟩ = false := (hon.frozen (p := ⟨w.heap.size + 1, 4, none⟩) (by simp) (by simp [Value.ownBlock])).trans (by go_simp)
    clear hown hgrow hon
    go_wp2
    refine bodyPost_ret (v := .agg #[.int .i64 (d + by_), .string s, .string t, .string u, .slice a' n c']) (by simp [results, Tryz.results109, go_sem, p00, p01, p02, p03, p04]) rfl ⟨_, _, _, rfl, ?_, ?_, ?_⟩
    · have hz : w.heap.size + 2 < w1.heap.size := by have := HON.out.size; simp at this; omega
      have h0 : OwnAts w1 w.heap.size w1.heap.size a' n c' l := ownAts_of HOWN.out (by omega) HAT.out.size
      have hap : ∀ y, a' = some y → n ≠ 0 → ¬ (y.block = w.heap.size ∨ y.block = w.heap.size + 1) := fun y hy hne hq => by
        subst hy
        have := HBLK.out
        simp [Value.ownBlock] at this
        omega
      have st : ∀ (W : World) (p : Addr) (v : Value), (p.block = w.heap.size ∨ p.block = w.heap.size + 1) → OwnAts W w.heap.size w1.heap.size a' n c' l → OwnAts (W.setCell p v) w.heap.size w1.heap.size a' n c' l := fun W p v hp h =>
        h.only (Only.set (P := fun i => i = w.heap.size ∨ i = w.heap.size + 1) W p v hp) hap
      have := st _ ⟨w.heap.size, 4, none⟩ (.slice a' n c') (.inl rfl) (st _ ⟨w.heap.size, 3, none⟩ (.string u) (.inl rfl) (st _ ⟨w.heap.size, 2, none⟩ (.string t) (.inl rfl) (st _ ⟨w.heap.size, 1, none⟩ (.string s) (.inl rfl) (st _ ⟨w.heap.size, 0, none⟩ (.int .i64 (d + by_)) (.inl rfl) (st _ ⟨w.heap.size + 1, 4, none⟩ (.slice a' n c') (.inr rfl) h0)))))
      simpa using this
    · intro e
      subst e
      have := HBLK.out
      simp [Value.ownBlock] at this
    · have hb : Below w.heap.size w w1 := (below3 _ _ _ _).trans ⟨HON.out.os, HON.out.tape, HON.out.output, HON.out.size, fun i hi => HON.out.block i (by simp; omega) (by simp [Value.ownBlock]; omega)⟩
      exact (((((hb.setCell (by simp) _).setCell (by simp) _).setCell (by simp) _).setCell (by simp) _).setCell (by simp) _).setCell (by simp) _
def ItsOwnS (w : World) (l : List It) (e : Ending) (w' : World) : Prop := ∃ x n c, e = .returned (.slice (some x) n c) ∧ OwnIts w' w.heap.size w'.heap.size (some x) n c l ∧ Below w.heap.size w w'
theorem owns_some {w : World} {base : Nat} {e : TypeId} {size n c : Nat} {a : Option Addr} {xs : List Value} (h : w.ownsRow base e size (.slice a n c) n xs) (hn : n ≠ 0) : ∃ x, a = some x := by
  rcases h.2 with ⟨_, h0⟩ | ⟨g, cap, cur, hv, _⟩
  · exact absurd h0 hn
  · simp only [Value.slice.injEq] at hv
    exact ⟨_, hv.1⟩
set_option maxRecDepth 100000 in
set_option maxHeartbeats 3200000 in
theorem specMoved_any (lo hi : Nat) (a : Option Addr) (n c f e : Nat) (by_ : Int) (l : List It) (w : World) (hd : ∀ i, i < n → -1000 ≤ (l.getD i dIt).depth ∧ (l.getD i dIt).depth ≤ 1000) (hby : -1000 ≤ by_ ∧ by_ ≤ 1000) (hA : ∀ i, i < n → (l.getD i dIt).attrs.length ≤ 1048576)
    (hf : f ≤ e) (he : e ≤ n) (h : OwnIts w lo hi a n c l) :
    Calls Tryz.prog 78 #[.slice a n c, .int .i64 f, .int .i64 e, .int .i64 by_] w (ItsOwnS w (movedTo l f e by_)) := by
  obtain ⟨i0, hi0, hz0, hz1, hz2⟩ := info_parts itemInfo
  have hm := h.max
  have HD := Lib.hid hd
  have HA := Lib.hid hA
  have HR := Lib.hid h.row
  have HIT := Lib.hid h.it
  clear h hd hA
  go_enter Tryz.func78, Tryz.ntmps78
  go_wp2
  go_loopw [9, 10] (fun v i wr => ∃ (k : Nat) (av : Option Addr) (nv cv : Nat) (A : Nat → Option Addr) (N C : Nat → Nat), f ≤ k ∧ k ≤ e ∧ i = .int .i64 k ∧ v = .slice av nv cv ∧ (∃ x, av = some x) ∧ GrowIts wr w.heap.size (.slice av nv cv) nv (movedTo l f k by_) A N C ∧ Below w.heap.size w wr) (fun _ i _ => e - (intOf i).toNat)
  case atStart =>
    refine ⟨f, some ⟨w.heap.size, 0, none⟩, 0, 0, fun _ => none, fun _ => 0, fun _ => 0, Nat.le_refl _, hf, rfl, rfl, ⟨_, rfl⟩, ?_, below1 _ _⟩
    have h0 : movedTo l f f by_ = [] := by simp [movedTo]
    rw [h0]
    exact ⟨lit_item w, fun i hi => by simp at hi, fun i hi => by simp at hi, fun i j hi => by simp at hi⟩
  case round =>
    obtain ⟨k, av, nv, cv, A, N, C, hk1, hk2, rfl, rfl, hsome, hg, hb⟩ := hrel
    have HG := Lib.hid hg
    have HB := Lib.hid hb
    have hnv : nv ≤ 1048576 := by have := hg.len; rw [movedTo_length] at this; omega
    clear hg hb
    by_cases hlt : k < e
    · obtain ⟨b, A2, N2, C2, rfl, hlo, hhi, hroom, hcs, _, _⟩ := HR.out.resolve_left (by omega)
      have hown := hcs k (by omega)
      have hbb := hroom.1
      have hit := HIT.out k (by omega)
      have hcell := hown.1.below hbb HB.out
      have hats := hown.2.ats.below HB.out
      have hI : ItAt wr b (k * 5) (l.getD k dIt) := ⟨Nat.lt_of_lt_of_le hbb HB.out.size, hit.1, hit.2, hcell.c0, hcell.c1, hcell.c2, hcell.c3, _, _, _, hcell.c4, hats⟩
      have K := Lib.hid (specItem_any b (k * 5) (l.getD k dIt) by_ wr (HD.out k (by omega)) hby (HA.out k (by omega)) _ _ _ hcell.c4 hcell.nil hats hI)
      have HST := Lib.hid (movedTo_step l hk1 by_)
      have q0 : (k : Int) < (n : Int) := by omega
      clear hroom hcs hown hit hcell hats hI
      generalize l.getD k dIt = x at K HST
      obtain ⟨xd, xt, xs, xn, xa⟩ := x
      dsimp only at K HST
      go_wp2_with fail
      refine K.out.mono ?_
      rintro en w1 ⟨a5, n5, c5, rfl, hat5, hnil5, hb1⟩
      dsimp only at hat5
      have HG1 := Lib.hid (HG.out.below hb1)
      have HAT5 := Lib.hid hat5
      have HNIL5 := Lib.hid hnil5
      have HB1 := Lib.hid hb1
      have HBW1 := Lib.hid (HB.out.trans (hb1.mono HB.out.size))
      clear hat5 hnil5 hb1
      go_wp2_with (at_builtin; refine wpList_append_own_at _ rfl _ _ 24 rfl w.heap.size 54 i0 _ 5 80 Tryz.underlying24 hi0 hz0 hz1 hz2 rfl (by decide) _ nv _ rfl (HG1.out.row.alloc _) ⟨w1.heap.size, 0, none⟩ 1 1 [.int .i64 (xd + by_), .string xt, .string xs, .string xn, .slice a5 n5 c5] rfl rfl ?c1 ?c2 ?c3 ?c4 ?c5 ?_)
      case c1 =>
        intro j v hj
        match j, hj with
        | 0, hj => simp at hj; subst hj; rw [Addr.add_lit]; go_simp
        | 1, hj => simp at hj; subst hj; rw [Addr.add_lit]; go_simp
        | 2, hj => simp at hj; subst hj; rw [Addr.add_lit]; go_simp
        | 3, hj => simp at hj; subst hj; rw [Addr.add_lit]; go_simp
        | 4, hj => simp at hj; subst hj; rw [Addr.add_lit]; go_simp
        | j + 5, hj => simp at hj
      case c2 => intro v hv; simp at hv; rcases hv with rfl | rfl | rfl | rfl | rfl <;> rfl
      case c3 => unfold maxLen; omega
      case c4 => omega
      case c5 => have := HBW1.out.size; simp; omega
      intro v' w2 hown' hgrow _ hblk
      obtain ⟨a', c', rfl⟩ := owns_slice hown'
      have HSM := Lib.hid (owns_some hown' (by omega))
      have HG2 : Hid (GrowIts w2 w.heap.size (.slice a' (nv + 1) c') (nv + 1) (movedTo l f (k + 1) by_) (putA (movedTo l f k by_).length a5 A) (putA (movedTo l f k by_).length n5 N) (putA (movedTo l f k by_).length c5 C)) := Lib.hid (by
        rw [HST.out]
        have h5 := HAT5.out.only (Only.below (P := fun _ => False) (below1 w1 (.cells #[.int .i64 (xd + by_), .string xt, .string xs, .string xn, .slice a5 n5 c5] 54))) fun _ _ _ h => h
        refine HG.out.snoc (x := ⟨xd + by_, xt, xs, xn, xa⟩) (w0 := w1.alloc (.cells #[.int .i64 (xd + by_), .string xt, .string xs, .string xn, .slice a5 n5 c5] 54)) (below_then HB1.out (below1 _ _)) ⟨h5.ats, h5.own.imp id fun ⟨b5, g1, g2, g3, g4⟩ => ⟨b5, g1, g2, by simp; omega, g4⟩⟩ HNIL5.out HB.out.size hown' hgrow ?_
        rcases hblk with e | e
        · exact .inl e
        · exact .inr ⟨_, e, by simp⟩)
      have HB2 := Lib.hid (below_appended HBW1.out HG1.out.row hgrow)
      clear hown' hgrow hblk
      go_wp2
      go_roundw
      case rel => exact ⟨k + 1, a', _, c', _, _, _, by omega, by omega, by go_num, rfl, HSM.out, HG2.out, HB2.out⟩
      case measure => simp [intOf]; omega
    · obtain rfl : k = e := by omega
      go_wp2
      go_ret
      obtain ⟨x, rfl⟩ := hsome
      refine ⟨x, nv, cv, rfl, HG.out.own hnv fun i hi => ?_, HB.out⟩
      have hlen := HG.out.len
      rw [movedTo_length] at hlen
      rw [movedTo_get l f k by_ i (by omega)]
      have h1 := HIT.out (f + i) (by omega)
      have h2 := HD.out (f + i) (by omega)
      exact ⟨⟨by show _ ≤ (l.getD (f + i) dIt).depth + by_; omega, by show (l.getD (f + i) dIt).depth + by_ ≤ _; omega⟩, h1.2⟩
theorem specAll_any (lo hi : Nat) (a : Option Addr) (n c : Nat) (by_ : Int) (l : List It) (w : World) (hd : ∀ i, i < n → -1000 ≤ (l.getD i dIt).depth ∧ (l.getD i dIt).depth ≤ 1000) (hby : -1000 ≤ by_ ∧ by_ ≤ 1000) (hA : ∀ i, i < n → (l.getD i dIt).attrs.length ≤ 1048576)
    (h : OwnIts w lo hi a n c l) :
    Calls Tryz.prog 41 #[.slice a n c, .int .i64 by_] w (ItsOwnS w (movedTo l 0 n by_)) := by
  have hm := h.max
  have K := Lib.hid (specMoved_any lo hi a n c 0 n by_ l w hd hby hA (Nat.zero_le _) (Nat.le_refl _) h)
  clear h hd hA
  go_enter Tryz.func41, Tryz.ntmps41
  go_wp2_with fail
  refine K.out.mono ?_
  rintro e w1 ⟨a1, n1, c1, rfl, hown, hb⟩
  have HO := Lib.hid hown
  have HB := Lib.hid hb
  clear hown hb
  go_wp2
  go_ret
  exact ⟨_, _, _, rfl, HO.out, HB.out⟩
theorem cellI_five {l : List It} {A : Nat → Option Addr} {N C : Nat → Nat} (i q : Nat) (hq : q < 5) :
    cellI l A N C (i * 5 + q) = if q = 0 then .int .i64 (l.getD i dIt).depth else if q = 1 then .string (l.getD i dIt).text else if q = 2 then .string (l.getD i dIt).space else if q = 3 then .string (l.getD i dIt).name else .slice (A i) (N i) (C i) := by
  unfold cellI
  rw [show (i * 5 + q) % 5 = q by omega, show (i * 5 + q) / 5 = i by omega]
theorem OwnIts.flat {w : World} {lo hi b n c : Nat} {l : List It} (h : OwnIts w lo hi (some ⟨b, 0, none⟩) n c l) (hn : n ≠ 0) :
    ∃ (A : Nat → Option Addr) (N C : Nat → Nat), (∀ j u, (flatI l A N C)[j]? = some u → w.cell? ((⟨b, 0, none⟩ : Addr).add j) = some u) ∧ (∀ i, i < n → OwnAts w lo hi (A i) (N i) (C i) (l.getD i dIt).attrs) := by
  obtain ⟨b', A, N, C, hb, _, _, _, hc, _, _⟩ := h.row.resolve_left hn
  simp only [Option.some.injEq, Addr.mk.injEq, and_true] at hb
  subst hb
  refine ⟨A, N, C, fun j u hj => ?_, fun i hi => (hc i hi).2⟩
  have hlt : j < l.length * 5 := by
    rcases Nat.lt_or_ge j (l.length * 5) with h1 | h1
    · exact h1
    · rw [List.getElem?_eq_none (by rw [flatI_length]; exact h1)] at hj; cases hj
  have hl := h.len
  rw [flatI_get _ _ _ _ _ hlt] at hj
  have hu := Option.some.inj hj
  have h5 := (hc (j / 5) (by omega)).1
  have e : j = j / 5 * 5 + j % 5 := by omega
  have hq : j % 5 < 5 := by omega
  rw [e] at hu ⊢
  rw [cellI_five _ _ hq] at hu
  rw [Addr.add_lit, Nat.zero_add]
  generalize j % 5 = q at hu hq ⊢
  generalize j / 5 = i at hu h5 ⊢
  rcases q with _ | _ | _ | _ | _ | q
  · rw [← hu]; exact h5.c0
  · rw [← hu]; exact h5.c1
  · rw [← hu]; exact h5.c2
  · rw [← hu]; exact h5.c3
  · rw [← hu]; exact h5.c4
  · omega
def WideIt (x : It) : Prop := (-9223372036854775808 ≤ x.depth ∧ x.depth ≤ 9223372036854775807) ∧ (x.text.size ≤ 9223372036854775807 ∧ x.space.size ≤ 9223372036854775807 ∧ x.name.size ≤ 9223372036854775807)
def joinA {α : Type} (n : Nat) (F G : Nat → α) (i : Nat) : α := if i < n then F i else G (i - n)
theorem flatI_join (l l2 : List It) (A A2 : Nat → Option Addr) (N N2 C C2 : Nat → Nat) : flatI (l ++ l2) (joinA l.length A A2) (joinA l.length N N2) (joinA l.length C C2) = flatI l A N C ++ flatI l2 A2 N2 C2 := by
  apply List.ext_getElem?
  intro j
  by_cases h1 : j < l.length * 5
  · have h2 : j / 5 < l.length := by omega
    rw [flatI_get _ _ _ _ _ (by rw [List.length_append]; omega), List.getElem?_append_left (by rw [flatI_length]; exact h1), flatI_get _ _ _ _ _ h1]
    have hl : (l ++ l2).getD (j / 5) dIt = l.getD (j / 5) dIt := by rw [List.getD_eq_getElem?_getD, List.getElem?_append_left h2, ← List.getD_eq_getElem?_getD]
    have g : ∀ {α : Type} (F G : Nat → α), joinA l.length F G (j / 5) = F (j / 5) := fun F G => by unfold joinA; rw [if_pos h2]
    unfold cellI
    rw [hl, g, g, g]
  · by_cases h3 : j < (l.length + l2.length) * 5
    · rw [flatI_get _ _ _ _ _ (by rw [List.length_append]; exact h3), List.getElem?_append_right (by rw [flatI_length]; omega), flatI_length, flatI_get _ _ _ _ _ (by omega)]
      have e5 : (j - l.length * 5) / 5 = j / 5 - l.length := by omega
      have e6 : (j - l.length * 5) % 5 = j % 5 := by omega
      have hl : (l ++ l2).getD (j / 5) dIt = l2.getD (j / 5 - l.length) dIt := by rw [List.getD_eq_getElem?_getD, List.getElem?_append_right (by omega), ← List.getD_eq_getElem?_getD]
      have g : ∀ {α : Type} (F G : Nat → α), joinA l.length F G (j / 5) = G (j / 5 - l.length) := fun F G => by unfold joinA; rw [if_neg (by omega)]
      unfold cellI
      rw [hl, g, g, g, e5, e6]
    · rw [List.getElem?_eq_none (by rw [flatI_length, List.length_append]; omega), List.getElem?_eq_none (by rw [List.length_append, flatI_length, flatI_length]; omega)]
theorem GrowIts.join {w w0 w1 : World} {B : Nat} {v v' : Value} {n k : Nat} {l l2 : List It} {A A2 : Nat → Option Addr} {N C N2 C2 : Nat → Nat}
    (h : GrowIts w B v n l A N C) (hw : Below w.heap.size w w0) (hk : l2.length = k) (hA : ∀ i, i < k → OwnAts w0 w.heap.size w0.heap.size (A2 i) (N2 i) (C2 i) (l2.getD i dIt).attrs ∧ (A2 i = none → C2 i = 0))
    (hE : ∀ i j, i < k → j < k → i ≠ j → ∀ x y, A2 i = some x → A2 j = some y → N2 i ≠ 0 → N2 j ≠ 0 → x.block ≠ y.block) (hB : B ≤ w.heap.size)
    (hr : w1.ownsRow B 54 5 v' (n + k) (flatI l A N C ++ flatI l2 A2 N2 C2)) (hg : w0.grownBy w1 v.ownBlock) (hv : v'.ownBlock = v.ownBlock ∨ ∃ g, v'.ownBlock = some g ∧ w0.heap.size ≤ g) :
    GrowIts w1 B v' (n + k) (l ++ l2) (joinA l.length A A2) (joinA l.length N N2) (joinA l.length C C2) := by
  have hon := Only.grown hg
  have hs0 := hw.size
  have hs1 := hg.size
  have hvlt : ∀ g, v.ownBlock = some g → g < w.heap.size := fun g hgb => (h.row.lt g hgb).2
  have hold : ∀ i, i < l.length → ∀ z, A i = some z → N i ≠ 0 → B ≤ z.block ∧ z.block < w.heap.size := fun i hi z hz hne => (h.ats i hi).1.in hz hne
  have hnew : ∀ i, i < k → ∀ z, A2 i = some z → N2 i ≠ 0 → w.heap.size ≤ z.block ∧ z.block < w0.heap.size := fun i hi z hz hne => (hA i hi).1.in hz hne
  have j1 : ∀ {α : Type} (F G : Nat → α) (i : Nat), i < l.length → joinA l.length F G i = F i := fun F G i hi => by unfold joinA; rw [if_pos hi]
  have j2 : ∀ {α : Type} (F G : Nat → α) (i : Nat), l.length ≤ i → joinA l.length F G i = G (i - l.length) := fun F G i hi => by unfold joinA; rw [if_neg (by omega)]
  have hlen : ∀ i, i < (l ++ l2).length → i < l.length ∨ (l.length ≤ i ∧ i - l.length < k) := fun i hi => by
    rw [List.length_append] at hi
    omega
  have hvn : ∀ z : Addr, w.heap.size ≤ z.block → z.block < w0.heap.size → v'.ownBlock ≠ some z.block := fun z h1 h2 hq => by
    rcases hv with hv | ⟨g, hv, hg2⟩
    · rw [hv] at hq
      have := hvlt _ hq
      omega
    · rw [hv] at hq
      simp only [Option.some.injEq] at hq
      omega
  refine ⟨by rw [flatI_join]; exact hr, fun i hi => ?_, fun i hi z hz hne => ?_, fun i j hi hj hij z z' hz hz' hn hn' => ?_⟩
  · rcases hlen i hi with h1 | ⟨h1, h2⟩
    · rw [j1 _ _ _ h1, j1 _ _ _ h1, j1 _ _ _ h1]
      have hl : (l ++ l2).getD i dIt = l.getD i dIt := by rw [List.getD_eq_getElem?_getD, List.getElem?_append_left h1, ← List.getD_eq_getElem?_getD]
      rw [hl]
      have h0 := (h.ats i h1).1.only (Only.below (P := fun _ => False) hw) fun _ _ _ h => h
      have h3 := h0.only hon fun z hz hne hq => h.apart i h1 z hz hne hq.symm
      exact ⟨⟨h3.ats, h3.own.imp id fun ⟨b, g1, g2, g3, g4⟩ => ⟨b, g1, g2, by omega, g4⟩⟩, (h.ats i h1).2⟩
    · rw [j2 _ _ _ h1, j2 _ _ _ h1, j2 _ _ _ h1]
      have hl : (l ++ l2).getD i dIt = l2.getD (i - l.length) dIt := by rw [List.getD_eq_getElem?_getD, List.getElem?_append_right h1, ← List.getD_eq_getElem?_getD]
      rw [hl]
      have h3 := (hA _ h2).1.only hon fun z hz hne hq => by
        have g1 := (hnew _ h2 z hz hne).1
        have g2 := hvlt z.block hq.symm
        omega
      exact ⟨⟨h3.ats, h3.own.imp id fun ⟨b, g1, g2, g3, g4⟩ => ⟨b, g1, by omega, by omega, g4⟩⟩, (hA _ h2).2⟩
  · rcases hlen i hi with h1 | ⟨h1, h2⟩
    · rw [j1 _ _ _ h1] at hz hne
      have g1 := hold i h1 z hz hne
      rcases hv with hv | ⟨g, hv, hg2⟩
      · rw [hv]
        exact h.apart i h1 z hz hne
      · rw [hv]
        intro hq
        simp only [Option.some.injEq] at hq
        omega
    · rw [j2 _ _ _ h1] at hz hne
      have g1 := hnew _ h2 z hz hne
      exact hvn z g1.1 g1.2
  · rcases hlen i hi with h1 | ⟨h1, h2⟩
    · rw [j1 _ _ _ h1] at hz hn
      have g1 := hold i h1 z hz hn
      rcases hlen j hj with h3 | ⟨h3, h4⟩
      · rw [j1 _ _ _ h3] at hz' hn'
        exact h.each i j h1 h3 hij z z' hz hz' hn hn'
      · rw [j2 _ _ _ h3] at hz' hn'
        have g2 := hnew _ h4 z' hz' hn'
        omega
    · rw [j2 _ _ _ h1] at hz hn
      have g1 := hnew _ h2 z hz hn
      rcases hlen j hj with h3 | ⟨h3, h4⟩
      · rw [j1 _ _ _ h3] at hz' hn'
        have g2 := hold j h3 z' hz' hn'
        omega
      · rw [j2 _ _ _ h3] at hz' hn'
        exact hE _ _ h2 h4 (by omega) z z' hz hz' hn hn'
theorem grow_root2 {w : World} {B n c : Nat} {a : Option Addr} (x : It) (hB : B ≤ w.heap.size) (h : OwnAts w B w.heap.size a n c x.attrs) (hnil : a = none → c = 0) :
    GrowIts (w.alloc (.cells #[.int .i64 x.depth, .string x.text, .string x.space, .string x.name, .slice a n c] 54)) B (.slice (some ⟨w.heap.size, 0, none⟩) 1 1) 1 [x] (fun _ => a) (fun _ => n) (fun _ => c) := by
  have hl := World.ownsRow_lit (base := B) (e := 54) (size := 5) w #[.int .i64 x.depth, .string x.text, .string x.space, .string x.name, .slice a n c] 1 hB (by decide) (by simp)
  have hown := h.only (Only.below (P := fun _ => False) (below1 w (.cells #[.int .i64 x.depth, .string x.text, .string x.space, .string x.name, .slice a n c] 54))) fun _ _ _ h => h
  have ef : flatI [x] (fun _ => a) (fun _ => n) (fun _ => c) = (#[.int .i64 x.depth, .string x.text, .string x.space, .string x.name, .slice a n c] : Array Value).toList := by
    show List.map (cellI [x] (fun _ => a) (fun _ => n) (fun _ => c)) (List.range 5) = _
    rw [show List.range 5 = [0, 1, 2, 3, 4] from by decide]
    simp [cellI]
  refine ⟨by rw [ef]; exact hl, fun i hi => ?_, fun i hi y hy hne => ?_, fun i j hi hj hij => ?_⟩
  · have h0 : i = 0 := by simpa using hi
    subst h0
    exact ⟨⟨hown.ats, hown.own.imp id fun ⟨b, h1, h2, h3, h4⟩ => ⟨b, h1, h2, by simp; omega, h4⟩⟩, hnil⟩
  · have g1 := hown.in hy hne
    simp only [Value.ownBlock]
    intro e
    simp only [Option.some.injEq] at e
    omega
  · simp at hi hj
    omega
theorem OwnAts.later {w w' : World} {lo hi hi' : Nat} {a : Option Addr} {n c : Nat} {l : List At} (h : OwnAts w lo hi a n c l) (hb : Below w.heap.size w w') (hh : hi ≤ hi') : OwnAts w' lo hi' a n c l := by
  have h1 := h.only (Only.below (P := fun _ => False) hb) fun _ _ _ h => h
  exact ⟨h1.ats, h1.own.imp id fun ⟨b, g1, g2, g3, g4⟩ => ⟨b, g1, g2, by omega, g4⟩⟩
def one2 {α : Type} (a z : α) (i : Nat) : α := if i = 0 then a else z
theorem vint {k : IntKind} {a b : Int} (h : a = b) : Value.int k a = .int k b := by rw [h]
end Go.Proofs.YtjkmgpomcnplnaaGreatDoor
