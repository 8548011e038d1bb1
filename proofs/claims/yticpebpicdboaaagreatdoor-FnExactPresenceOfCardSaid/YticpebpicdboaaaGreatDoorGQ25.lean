/- Rows of items that grow: attributes that are literals. -/
import Derived.Test.YticpebpicdboaaaGreatDoorGQ24
import Derived.Test.YticpebpicdboaaaGreatDoorGQ15
import Derived.Test.YticpebpicdboaaaGreatDoorGQ1
import Derived.Deep.RegionHeld3
namespace Go.Proofs.YticpebpicdboaaaGreatDoor
open Go.ChangeShapes Go.WideShapes Go.ChangeAt Go.RowKit
set_option linter.unusedVariables false

/-- two rows' cells, one behind the other -/
def joinA {α : Type} (n : Nat) (F G : Nat → α) (i : Nat) : α := if i < n then F i else G (i - n)
theorem flatI_join (l l2 : List It) (A A2 : Nat → Option Addr) (N N2 C C2 : Nat → Nat) : flatI (l ++ l2) (joinA l.length A A2) (joinA l.length N N2) (joinA l.length C C2) = flatI l A N C ++ flatI l2 A2 N2 C2 := by
  apply List.ext_getElem?
  intro j
  by_cases h1 : j < l.length * 5
  · have h2 : j / 5 < l.length := by omega
    rw [flatI_get _ _ _ _ _ (by rw [List.length_append]; omega), List.getElem?_append_left (by rw [flatI_length]; exact h1), flatI_get _ _ _ _ _ h1]
    have hl : (l ++ l2).getD (j / 5) dIt = l.getD (j / 5) dIt := by rw [List.getD_eq_getElem?_getD, List.getElem?_append_left h2, ← List.getD_eq_getElem?_getD]
    have g : ∀ {α : Type} (F G : Nat → α), joinA l.length F G (j / 5) = F (j / 5) := fun F G => by unfold joinA; rw [if_pos h2]
    unfold cellI
    rw [hl, g, g, g]
  · by_cases h3 : j < (l.length + l2.length) * 5
    · rw [flatI_get _ _ _ _ _ (by rw [List.length_append]; exact h3), List.getElem?_append_right (by rw [flatI_length]; omega), flatI_length, flatI_get _ _ _ _ _ (by omega)]
      have e5 : (j - l.length * 5) / 5 = j / 5 - l.length := by omega
      have e6 : (j - l.length * 5) % 5 = j % 5 := by omega
      have hl : (l ++ l2).getD (j / 5) dIt = l2.getD (j / 5 - l.length) dIt := by rw [List.getD_eq_getElem?_getD, List.getElem?_append_right (by omega), ← List.getD_eq_getElem?_getD]
      have g : ∀ {α : Type} (F G : Nat → α), joinA l.length F G (j / 5) = G (j / 5 - l.length) := fun F G => by unfold joinA; rw [if_neg (by omega)]
      unfold cellI
      rw [hl, g, g, g, e5, e6]
    · rw [List.getElem?_eq_none (by rw [flatI_length, List.length_append]; omega), List.getElem?_eq_none (by rw [List.length_append, flatI_length, flatI_length]; omega)]
/-- behind an append of a row of items of one's own -/
theorem GrowIts.join {w w0 w1 : World} {B : Nat} {v v' : Value} {n k : Nat} {l l2 : List It} {A A2 : Nat → Option Addr} {N C N2 C2 : Nat → Nat}
    (h : GrowIts w B v n l A N C) (hw : Below w.heap.size w w0) (hk : l2.length = k) (hA : ∀ i, i < k → OwnAts w0 w.heap.size w0.heap.size (A2 i) (N2 i) (C2 i) (l2.getD i dIt).attrs ∧ (A2 i = none → C2 i = 0))
    (hE : ∀ i j, i < k → j < k → i ≠ j → ∀ x y, A2 i = some x → A2 j = some y → N2 i ≠ 0 → N2 j ≠ 0 → x.block ≠ y.block) (hB : B ≤ w.heap.size)
    (hr : w1.ownsRow B 77 5 v' (n + k) (flatI l A N C ++ flatI l2 A2 N2 C2)) (hg : w0.grownBy w1 v.ownBlock) (hv : v'.ownBlock = v.ownBlock ∨ ∃ g, v'.ownBlock = some g ∧ w0.heap.size ≤ g) :
    GrowIts w1 B v' (n + k) (l ++ l2) (joinA l.length A A2) (joinA l.length N N2) (joinA l.length C C2) := by
  have hon := Only.grown hg
  have hs0 := hw.size
  have hs1 := hg.size
  have hvlt : ∀ g, v.ownBlock = some g → g < w.heap.size := fun g hgb => (h.row.lt g hgb).2
  have hold : ∀ i, i < l.length → ∀ z, A i = some z → N i ≠ 0 → B ≤ z.block ∧ z.block < w.heap.size := fun i hi z hz hne => (h.ats i hi).1.in hz hne
  have hnew : ∀ i, i < k → ∀ z, A2 i = some z → N2 i ≠ 0 → w.heap.size ≤ z.block ∧ z.block < w0.heap.size := fun i hi z hz hne => (hA i hi).1.in hz hne
  have j1 : ∀ {α : Type} (F G : Nat → α) (i : Nat), i < l.length → joinA l.length F G i = F i := fun F G i hi => by unfold joinA; rw [if_pos hi]
  have j2 : ∀ {α : Type} (F G : Nat → α) (i : Nat), l.length ≤ i → joinA l.length F G i = G (i - l.length) := fun F G i hi => by unfold joinA; rw [if_neg (by omega)]
  have hlen : ∀ i, i < (l ++ l2).length → i < l.length ∨ (l.length ≤ i ∧ i - l.length < k) := fun i hi => by
    rw [List.length_append] at hi
    omega
  have hvn : ∀ z : Addr, w.heap.size ≤ z.block → z.block < w0.heap.size → v'.ownBlock ≠ some z.block := fun z h1 h2 hq => by
    rcases hv with hv | ⟨g, hv, hg2⟩
    · rw [hv] at hq
      have := hvlt _ hq
      omega
    · rw [hv] at hq
      simp only [Option.some.injEq] at hq
      omega
  refine ⟨by rw [flatI_join]; exact hr, fun i hi => ?_, fun i hi z hz hne => ?_, fun i j hi hj hij z z' hz hz' hn hn' => ?_⟩
  · rcases hlen i hi with h1 | ⟨h1, h2⟩
    · rw [j1 _ _ _ h1, j1 _ _ _ h1, j1 _ _ _ h1]
      have hl : (l ++ l2).getD i dIt = l.getD i dIt := by rw [List.getD_eq_getElem?_getD, List.getElem?_append_left h1, ← List.getD_eq_getElem?_getD]
      rw [hl]
      have h0 := (h.ats i h1).1.only (Only.below (P := fun _ => False) hw) fun _ _ _ h => h
      have h3 := h0.only hon fun z hz hne hq => h.apart i h1 z hz hne hq.symm
      exact ⟨⟨h3.ats, h3.own.imp id fun ⟨b, g1, g2, g3, g4⟩ => ⟨b, g1, g2, by omega, g4⟩⟩, (h.ats i h1).2⟩
    · rw [j2 _ _ _ h1, j2 _ _ _ h1, j2 _ _ _ h1]
      have hl : (l ++ l2).getD i dIt = l2.getD (i - l.length) dIt := by rw [List.getD_eq_getElem?_getD, List.getElem?_append_right h1, ← List.getD_eq_getElem?_getD]
      rw [hl]
      have h3 := (hA _ h2).1.only hon fun z hz hne hq => by
        have g1 := (hnew _ h2 z hz hne).1
        have g2 := hvlt z.block hq.symm
        omega
      exact ⟨⟨h3.ats, h3.own.imp id fun ⟨b, g1, g2, g3, g4⟩ => ⟨b, g1, by omega, by omega, g4⟩⟩, (hA _ h2).2⟩
  · rcases hlen i hi with h1 | ⟨h1, h2⟩
    · rw [j1 _ _ _ h1] at hz hne
      have g1 := hold i h1 z hz hne
      rcases hv with hv | ⟨g, hv, hg2⟩
      · rw [hv]
        exact h.apart i h1 z hz hne
      · rw [hv]
        intro hq
        simp only [Option.some.injEq] at hq
        omega
    · rw [j2 _ _ _ h1] at hz hne
      have g1 := hnew _ h2 z hz hne
      exact hvn z g1.1 g1.2
  · rcases hlen i hi with h1 | ⟨h1, h2⟩
    · rw [j1 _ _ _ h1] at hz hn
      have g1 := hold i h1 z hz hn
      rcases hlen j hj with h3 | ⟨h3, h4⟩
      · rw [j1 _ _ _ h3] at hz' hn'
        exact h.each i j h1 h3 hij z z' hz hz' hn hn'
      · rw [j2 _ _ _ h3] at hz' hn'
        have g2 := hnew _ h4 z' hz' hn'
        omega
    · rw [j2 _ _ _ h1] at hz hn
      have g1 := hnew _ h2 z hz hn
      rcases hlen j hj with h3 | ⟨h3, h4⟩
      · rw [j1 _ _ _ h3] at hz' hn'
        have g2 := hold j h3 z' hz' hn'
        omega
      · rw [j2 _ _ _ h3] at hz' hn'
        exact hE _ _ h2 h4 (by omega) z z' hz hz' hn hn'
/-- a row of one item -/
theorem grow_root2 {w : World} {B n c : Nat} {a : Option Addr} (x : It) (hB : B ≤ w.heap.size) (h : OwnAts w B w.heap.size a n c x.attrs) (hnil : a = none → c = 0) :
    GrowIts (w.alloc (.cells #[.int .i64 x.depth, .string x.text, .string x.space, .string x.name, .slice a n c] 77)) B (.slice (some ⟨w.heap.size, 0, none⟩) 1 1) 1 [x] (fun _ => a) (fun _ => n) (fun _ => c) := by
  have hl := World.ownsRow_lit (base := B) (e := 77) (size := 5) w #[.int .i64 x.depth, .string x.text, .string x.space, .string x.name, .slice a n c] 1 hB (by decide) (by simp)
  have hown := h.only (Only.below (P := fun _ => False) (below1 w (.cells #[.int .i64 x.depth, .string x.text, .string x.space, .string x.name, .slice a n c] 77))) fun _ _ _ h => h
  have ef : flatI [x] (fun _ => a) (fun _ => n) (fun _ => c) = (#[.int .i64 x.depth, .string x.text, .string x.space, .string x.name, .slice a n c] : Array Value).toList := by
    show List.map (cellI [x] (fun _ => a) (fun _ => n) (fun _ => c)) (List.range 5) = _
    rw [show List.range 5 = [0, 1, 2, 3, 4] from by decide]
    simp [cellI]
  refine ⟨by rw [ef]; exact hl, fun i hi => ?_, fun i hi y hy hne => ?_, fun i j hi hj hij => ?_⟩
  · have h0 : i = 0 := by simpa using hi
    subst h0
    exact ⟨⟨hown.ats, hown.own.imp id fun ⟨b, h1, h2, h3, h4⟩ => ⟨b, h1, h2, by simp; omega, h4⟩⟩, hnil⟩
  · have g1 := hown.in hy hne
    simp only [Value.ownBlock]
    intro e
    simp only [Option.some.injEq] at e
    omega
  · simp at hi hj
    omega

/-- a row of one attribute, laid by a literal -/
theorem lit_ats1 (w : World) (B : Nat) (hB : B ≤ w.heap.size) (nm v : ByteArray) (h1 : nm.size ≤ 9223372036854775807) (h2 : v.size ≤ 9223372036854775807) :
    OwnAts (w.alloc (.cells #[.string nm, .string v] 75)) B (w.alloc (.cells #[.string nm, .string v] 75)).heap.size (some ⟨w.heap.size, 0, none⟩) 1 1 [⟨nm, v⟩] := by
  have hl := World.ownsRow_lit (base := B) (e := 75) (size := 2) w #[.string nm, .string v] 1 hB (by decide) (by simp)
  have ef : flatA [⟨nm, v⟩] = (#[.string nm, .string v] : Array Value).toList := by
    show List.map _ (List.range 2) = _
    rw [show List.range 2 = [0, 1] from by decide]
    simp
  rw [← ef] at hl
  refine ownAts_of hl (by decide) fun i => ?_
  match i with
  | 0 => exact ⟨h1, h2⟩
  | i + 1 => exact ⟨by show (0 : Nat) ≤ _; omega, by show (0 : Nat) ≤ _; omega⟩
theorem OwnAts.later {w w' : World} {lo hi hi' : Nat} {a : Option Addr} {n c : Nat} {l : List At} (h : OwnAts w lo hi a n c l) (hb : Below w.heap.size w w') (hh : hi ≤ hi') : OwnAts w' lo hi' a n c l := by
  have h1 := h.only (Only.below (P := fun _ => False) hb) fun _ _ _ h => h
  exact ⟨h1.ats, h1.own.imp id fun ⟨b, g1, g2, g3, g4⟩ => ⟨b, g1, g2, by omega, g4⟩⟩
def one2 {α : Type} (a z : α) (i : Nat) : α := if i = 0 then a else z
theorem flatI_two (x y : It) (a : Option Addr) (m c : Nat) : flatI [x, y] (one2 a none) (one2 m 0) (one2 c 0) = [.int .i64 x.depth, .string x.text, .string x.space, .string x.name, .slice a m c, .int .i64 y.depth, .string y.text, .string y.space, .string y.name, .slice none 0 0] := by
  show List.map (cellI [x, y] _ _ _) (List.range 10) = _
  rw [show List.range 10 = [0, 1, 2, 3, 4, 5, 6, 7, 8, 9] from by decide]
  simp [cellI, one2]
/-- behind an append of two items, of which the first one has attributes -/
theorem GrowIts.two1 {w w0 w1 : World} {B : Nat} {v v' : Value} {n : Nat} {l : List It} {A : Nat → Option Addr} {N C : Nat → Nat} {x y : It} {a : Option Addr} {m c : Nat}
    (h : GrowIts w B v n l A N C) (hw : Below w.heap.size w w0) (ha : OwnAts w0 w.heap.size w0.heap.size a m c x.attrs) (hnil : a = none → c = 0) (hy : y.attrs = []) (hB : B ≤ w.heap.size)
    (hr : w1.ownsRow B 77 5 v' (n + 2) (flatI l A N C ++ [.int .i64 x.depth, .string x.text, .string x.space, .string x.name, .slice a m c, .int .i64 y.depth, .string y.text, .string y.space, .string y.name, .slice none 0 0])) (hg : w0.grownBy w1 v.ownBlock)
    (hv : v'.ownBlock = v.ownBlock ∨ ∃ g, v'.ownBlock = some g ∧ w0.heap.size ≤ g) :
    ∃ (A' : Nat → Option Addr) (N' C' : Nat → Nat), GrowIts w1 B v' (n + 2) (l ++ [x, y]) A' N' C' := by
  refine ⟨_, _, _, h.join (l2 := [x, y]) (A2 := one2 a none) (N2 := one2 m 0) (C2 := one2 c 0) hw rfl (fun i hi => ?_) (fun i j hi hj hij p q hp hq hn hn' => ?_) hB (by rw [flatI_two]; exact hr) hg hv⟩
  · match i, hi with
    | 0, _ => exact ⟨ha, hnil⟩
    | 1, _ =>
      show OwnAts w0 w.heap.size w0.heap.size none 0 0 y.attrs ∧ _
      rw [hy]
      exact ⟨bareAts _ _ _, fun _ => rfl⟩
  · match i, j, hi, hj with
    | 0, 0, _, _ => exact absurd rfl hij
    | 0, 1, _, _ => cases hq
    | 1, _, _, _ => cases hp
end Go.Proofs.YticpebpicdboaaaGreatDoor

/- A row of items of one's own, of which some blocks are known to be no part. -/
namespace Go.Proofs.YticpebpicdboaaaGreatDoor
open Go.ChangeShapes Go.WideShapes Go.ChangeAt Go.RowKit
set_option linter.unusedVariables false

/-- a row of items behind B that has nothing in the blocks of E -/
def GrowOff (w : World) (B : Nat) (v : Value) (n : Nat) (l : List It) (E : Nat → Prop) : Prop :=
  ∃ (A : Nat → Option Addr) (N C : Nat → Nat), GrowIts w B v n l A N C ∧ (∀ g, v.ownBlock = some g → ¬ E g) ∧ ∀ i, i < l.length → ∀ x, A i = some x → N i ≠ 0 → ¬ E x.block
theorem GrowIts.only2 {P : Nat → Prop} {w w' : World} {B : Nat} {v : Value} {n : Nat} {l : List It} {A : Nat → Option Addr} {N C : Nat → Nat} (h : GrowIts w B v n l A N C) (ho : Only P w w')
    (h1 : ∀ g, v.ownBlock = some g → ¬ P g) (h2 : ∀ i, i < l.length → ∀ x, A i = some x → N i ≠ 0 → ¬ P x.block) : GrowIts w' B v n l A N C := by
  have hsz := ho.size
  refine ⟨?_, fun i hi => ⟨?_, (h.ats i hi).2⟩, h.apart, h.each⟩
  · refine ⟨h.row.1, ?_⟩
    rcases h.row.2 with e | ⟨g, cap, cur, hv, hg, hh, r⟩
    · exact .inl e
    · have hlt := (h.row.lt g (by rw [hv]; rfl)).2
      exact .inr ⟨g, cap, cur, hv, hg, by rw [ho.block g hlt (h1 g (by rw [hv]; rfl))]; exact hh, r⟩
  · have h3 := (h.ats i hi).1.only ho fun x hx hn => h2 i hi x hx hn
    exact ⟨h3.ats, h3.own.imp id fun ⟨b, g1, g2, g3, g4⟩ => ⟨b, g1, g2, by omega, g4⟩⟩
theorem GrowOff.only {P E : Nat → Prop} {w w' : World} {B : Nat} {v : Value} {n : Nat} {l : List It} (h : GrowOff w B v n l E) (ho : Only P w w') (hP : ∀ i, P i → E i) : GrowOff w' B v n l E := by
  obtain ⟨A, N, C, hg, h1, h2⟩ := h
  exact ⟨A, N, C, hg.only2 ho (fun g hg hp => h1 g hg (hP g hp)) (fun i hi x hx hn hp => h2 i hi x hx hn (hP _ hp)), h1, h2⟩
theorem GrowOff.below {E : Nat → Prop} {w w' : World} {B : Nat} {v : Value} {n : Nat} {l : List It} (h : GrowOff w B v n l E) (hb : Below w.heap.size w w') : GrowOff w' B v n l E :=
  h.only (P := fun _ => False) (Only.below hb) (fun i h => h.elim)
theorem GrowIts.lts {w : World} {B : Nat} {v : Value} {n : Nat} {l : List It} {A : Nat → Option Addr} {N C : Nat → Nat} (h : GrowIts w B v n l A N C) :
    (∀ g, v.ownBlock = some g → B ≤ g ∧ g < w.heap.size) ∧ ∀ i, i < l.length → ∀ x, A i = some x → N i ≠ 0 → B ≤ x.block ∧ x.block < w.heap.size :=
  ⟨fun g hg => h.row.lt g hg, fun i hi x hx hn => (h.ats i hi).1.in hx hn⟩
theorem GrowOff.ext {E E' : Nat → Prop} {w : World} {B : Nat} {v : Value} {n : Nat} {l : List It} (h : GrowOff w B v n l E) (hE : ∀ i, E' i → E i ∨ w.heap.size ≤ i ∨ i < B) : GrowOff w B v n l E' := by
  obtain ⟨A, N, C, hg, h1, h2⟩ := h
  obtain ⟨k1, k2⟩ := hg.lts
  refine ⟨A, N, C, hg, fun g hgb he => ?_, fun i hi x hx hn he => ?_⟩
  · have := k1 g hgb
    rcases hE g he with h | h | h
    · exact h1 g hgb h
    · omega
    · omega
  · have := k2 i hi x hx hn
    rcases hE _ he with h | h | h
    · exact h2 i hi x hx hn h
    · omega
    · omega
theorem GrowOff.of {E : Nat → Prop} {w : World} {B : Nat} {v : Value} {n : Nat} {l : List It} {A : Nat → Option Addr} {N C : Nat → Nat} (h : GrowIts w B v n l A N C) (hE : ∀ i, E i → w.heap.size ≤ i ∨ i < B) : GrowOff w B v n l E := by
  obtain ⟨k1, k2⟩ := h.lts
  exact ⟨A, N, C, h, fun g hg he => by have := k1 g hg; have := hE g he; omega, fun i hi x hx hn he => by have := k2 i hi x hx hn; have := hE _ he; omega⟩
theorem GrowOff.nil (w : World) (B : Nat) (E : Nat → Prop) : GrowOff w B (.slice none 0 0) 0 [] E :=
  ⟨fun _ => none, fun _ => 0, fun _ => 0, ⟨by have := World.ownsRow_nil w B 77 5; exact this, fun i hi => by simp at hi, fun i hi => by simp at hi, fun i j hi => by simp at hi⟩, fun g hg => by simp [Value.ownBlock] at hg, fun i hi => by simp at hi⟩
theorem GrowOff.len {E : Nat → Prop} {w : World} {B : Nat} {v : Value} {n : Nat} {l : List It} (h : GrowOff w B v n l E) : l.length = n := by
  obtain ⟨A, N, C, hg, _⟩ := h
  exact hg.len
theorem GrowOff.row {E : Nat → Prop} {w : World} {B : Nat} {v : Value} {n : Nat} {l : List It} (h : GrowOff w B v n l E) : ∃ xs, w.ownsRow B 77 5 v n xs ∧ ∀ g, v.ownBlock = some g → B ≤ g ∧ g < w.heap.size ∧ ¬ E g := by
  obtain ⟨A, N, C, hg, h1, _⟩ := h
  exact ⟨_, hg.row, fun g hgb => ⟨(hg.row.lt g hgb).1, (hg.row.lt g hgb).2, h1 g hgb⟩⟩
/-- what grew out of it has nothing there either -/
theorem GrowOff.grew {E : Nat → Prop} {w w' : World} {B : Nat} {v v' : Value} {n n' : Nat} {l l' : List It} (h : GrowOff w B v n l E) (hE : ∀ i, E i → i < w.heap.size)
    (hk : ∀ A N C, GrowIts w B v n l A N C → ∃ A' N' C', GrowIts w' B v' n' l' A' N' C' ∧ (v'.ownBlock = v.ownBlock ∨ ∃ g, v'.ownBlock = some g ∧ w.heap.size ≤ g) ∧ ∀ i, i < l'.length → ∀ x, A' i = some x → N' i ≠ 0 → w.heap.size ≤ x.block ∨ ∃ j, j < l.length ∧ A j = some x ∧ N j ≠ 0) : GrowOff w' B v' n' l' E := by
  obtain ⟨A, N, C, hg, h1, h2⟩ := h
  obtain ⟨A', N', C', hg', k1, k2⟩ := hk A N C hg
  refine ⟨A', N', C', hg', fun g hgb he => ?_, fun i hi x hx hn he => ?_⟩
  · have := hE g he
    rcases k1 with k1 | ⟨q, k1, hq⟩
    · exact h1 g (k1 ▸ hgb) he
    · rw [k1] at hgb
      simp only [Option.some.injEq] at hgb
      omega
  · have := hE _ he
    rcases k2 i hi x hx hn with k | ⟨j, hj, hx2, hn2⟩
    · omega
    · exact h2 j hj x hx2 hn2 he
theorem GrowOff.join {E : Nat → Prop} {w w0 w1 : World} {B : Nat} {v v' : Value} {n k : Nat} {l l2 : List It} {A A2 : Nat → Option Addr} {N C N2 C2 : Nat → Nat}
    (hg0 : GrowIts w B v n l A N C) (h1 : ∀ g, v.ownBlock = some g → ¬ E g) (h2 : ∀ i, i < l.length → ∀ x, A i = some x → N i ≠ 0 → ¬ E x.block) (hEl : ∀ i, E i → i < w.heap.size)
    (hw : Below w.heap.size w w0) (hk : l2.length = k) (hA : ∀ i, i < k → OwnAts w0 w.heap.size w0.heap.size (A2 i) (N2 i) (C2 i) (l2.getD i dIt).attrs ∧ (A2 i = none → C2 i = 0))
    (hE : ∀ i j, i < k → j < k → i ≠ j → ∀ x y, A2 i = some x → A2 j = some y → N2 i ≠ 0 → N2 j ≠ 0 → x.block ≠ y.block) (hB : B ≤ w.heap.size)
    (hr : w1.ownsRow B 77 5 v' (n + k) (flatI l A N C ++ flatI l2 A2 N2 C2)) (hg : w0.grownBy w1 v.ownBlock) (hv : v'.ownBlock = v.ownBlock ∨ ∃ g, v'.ownBlock = some g ∧ w0.heap.size ≤ g) :
    GrowOff w1 B v' (n + k) (l ++ l2) E := by
  have hs0 := hw.size
  refine ⟨_, _, _, hg0.join hw hk hA hE hB hr hg hv, fun g hgb he => ?_, fun i hi x hx hn he => ?_⟩
  · have := hEl g he
    rcases hv with k1 | ⟨q, k1, hq⟩
    · exact h1 g (k1 ▸ hgb) he
    · rw [k1] at hgb
      simp only [Option.some.injEq] at hgb
      omega
  · have he2 := hEl _ he
    rw [List.length_append] at hi
    by_cases hil : i < l.length
    · unfold joinA at hx hn
      rw [if_pos hil] at hx hn
      exact h2 i hil x hx hn he
    · unfold joinA at hx hn
      rw [if_neg hil] at hx hn
      have := (hA (i - l.length) (by omega)).1.in hx hn
      omega
theorem GrowOff.base {E : Nat → Prop} {w : World} {B B' : Nat} {v : Value} {n : Nat} {l : List It} (h : GrowOff w B v n l E) (hle : B' ≤ B) : GrowOff w B' v n l E := by
  obtain ⟨A, N, C, hg, h1, h2⟩ := h
  exact ⟨A, N, C, ⟨owns_mono hg.row hle, fun i hi => ⟨⟨(hg.ats i hi).1.ats, (hg.ats i hi).1.own.imp id fun ⟨b, g1, g2, g3, g4⟩ => ⟨b, g1, by omega, g3, g4⟩⟩, (hg.ats i hi).2⟩, hg.apart, hg.each⟩, h1, h2⟩
/-- seven stores into a block that is no part of it -/
theorem only7 (W : World) (b : Nat) (x0 x1 x2 x3 x4 x5 x6 : Value) : Only (fun i => i = b) W (((((((W.setCell ⟨b, 0, none⟩ x0).setCell ⟨b, 1, none⟩ x1).setCell ⟨b, 2, none⟩ x2).setCell ⟨b, 3, none⟩ x3).setCell ⟨b, 4, none⟩ x4).setCell ⟨b, 5, none⟩ x5).setCell ⟨b, 6, none⟩ x6) :=
  ((((((Only.set (P := fun i => i = b) W ⟨b, 0, none⟩ x0 rfl).trans (Only.set (P := fun i => i = b) _ ⟨b, 1, none⟩ x1 rfl)).trans (Only.set (P := fun i => i = b) _ ⟨b, 2, none⟩ x2 rfl)).trans (Only.set (P := fun i => i = b) _ ⟨b, 3, none⟩ x3 rfl)).trans (Only.set (P := fun i => i = b) _ ⟨b, 4, none⟩ x4 rfl)).trans (Only.set (P := fun i => i = b) _ ⟨b, 5, none⟩ x5 rfl)).trans (Only.set (P := fun i => i = b) _ ⟨b, 6, none⟩ x6 rfl)
theorem GrowOff.seven {E : Nat → Prop} {W : World} {B B' : Nat} {v : Value} {n : Nat} {l : List It} (h : GrowOff W B v n l E) (b : Nat) (hb : b < B) (hle : B' ≤ B) (x0 x1 x2 x3 x4 x5 x6 : Value) :
    GrowOff (((((((W.setCell ⟨b, 0, none⟩ x0).setCell ⟨b, 1, none⟩ x1).setCell ⟨b, 2, none⟩ x2).setCell ⟨b, 3, none⟩ x3).setCell ⟨b, 4, none⟩ x4).setCell ⟨b, 5, none⟩ x5).setCell ⟨b, 6, none⟩ x6) B' v n l (fun _ => False) :=
  (((h.ext (E' := fun i => i = b) (fun i hi => .inr (.inr (by omega)))).only (only7 W b x0 x1 x2 x3 x4 x5 x6) (fun i hi => hi)).ext (fun i hi => hi.elim)).base hle
end Go.Proofs.YticpebpicdboaaaGreatDoor

/- The cells of a row of items of one's own. -/
namespace Go.Proofs.YticpebpicdboaaaGreatDoor
open Go.ChangeShapes Go.WideShapes Go.ChangeAt Go.RowKit
set_option linter.unusedVariables false

theorem own_cells {w : World} {lo hi k c : Nat} {y : Addr} {l : List It} (h : OwnIts w lo hi (some y) k c l) :
    ∃ (A : Nat → Option Addr) (N C : Nat → Nat), (∀ j u, (flatI l A N C)[j]? = some u → w.cell? (y.add j) = some u) ∧ (∀ i, i < k → OwnAts w lo hi (A i) (N i) (C i) (l.getD i dIt).attrs ∧ (A i = none → C i = 0)) ∧
      (∀ i j, i < k → j < k → i ≠ j → ∀ x y, A i = some x → A j = some y → N i ≠ 0 → N j ≠ 0 → x.block ≠ y.block) := by
  by_cases h0 : k = 0
  · have hl : l = [] := List.length_eq_zero_iff.1 (by rw [h.len]; exact h0)
    subst hl
    refine ⟨fun _ => none, fun _ => 0, fun _ => 0, fun j u hj => ?_, fun i hi => by omega, fun i j hi => by omega⟩
    rw [List.getElem?_eq_none (by rw [flatI_length]; simp)] at hj
    cases hj
  · obtain ⟨b, A, N, C, hb, _, _, _, hc, _, he⟩ := h.row.resolve_left h0
    simp only [Option.some.injEq] at hb
    subst hb
    refine ⟨A, N, C, fun j u hj => ?_, fun i hi => ⟨(hc i hi).2, (hc i hi).1.nil⟩, he⟩
    have hlt : j < l.length * 5 := by
      rcases Nat.lt_or_ge j (l.length * 5) with h1 | h1
      · exact h1
      · rw [List.getElem?_eq_none (by rw [flatI_length]; exact h1)] at hj; cases hj
    have hl := h.len
    rw [flatI_get _ _ _ _ _ hlt] at hj
    have hu := Option.some.inj hj
    have h5 := (hc (j / 5) (by omega)).1
    have e : j = j / 5 * 5 + j % 5 := by omega
    have hq : j % 5 < 5 := by omega
    rw [e] at hu ⊢
    rw [cellI_five _ _ hq] at hu
    rw [Addr.add_lit, Nat.zero_add]
    generalize j % 5 = q at hu hq ⊢
    generalize j / 5 = i at hu h5 ⊢
    rcases q with _ | _ | _ | _ | _ | q
    · rw [← hu]; exact h5.c0
    · rw [← hu]; exact h5.c1
    · rw [← hu]; exact h5.c2
    · rw [← hu]; exact h5.c3
    · rw [← hu]; exact h5.c4
    · omega
theorem flatI_one (l : List It) (A : Nat → Option Addr) (N C : Nat → Nat) : ∀ u ∈ flatI l A N C, u.oneCell' = true := by
  intro u hu
  unfold flatI at hu
  rw [List.mem_map] at hu
  obtain ⟨j, _, rfl⟩ := hu
  unfold cellI
  split
  · rfl
  · split
    · rfl
    · split
      · rfl
      · split <;> rfl
end Go.Proofs.YticpebpicdboaaaGreatDoor

/- A region walked by hand: the condition may be made stronger on the way. -/
namespace Go.Proofs.YticpebpicdboaaaGreatDoor
open Go.ChangeShapes Go.WideShapes Go.ChangeAt Go.RowKit
set_option linter.unusedVariables false
theorem wpAnyH_mono {P : Program} {md : Region.Mode} {ops : Array Oper} {Q : Exit → Act → World → Prop} {S S' : World → Prop} (hS : ∀ w, S' w → S w) : ∀ (fuel : Nat) (listed : Array Bool) (a : Act) (w : World), wpAnyH P md ops Q S' fuel listed a w → wpAnyH P md ops Q S fuel listed a w
  | 0, _, _, _, h => h
  | fuel + 1, _, _, _, h => ⟨h.1, fun i hi => wpOp_mono (fun a' w' h' => ⟨hS _ h'.1, wpAnyH_mono hS fuel _ a' w' h'.2⟩) (h.2 i hi)⟩
end Go.Proofs.YticpebpicdboaaaGreatDoor
