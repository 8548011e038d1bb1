/- Two rows of items, one appended to the other. -/
import Derived.Test.YtppgdbejbhhjlaaGreatDoorGF17
import Derived.Test.YtppgdbejbhhjlaaGreatDoorGF18
namespace Go.Proofs.YtppgdbejbhhjlaaGreatDoor
open Go.ChangeShapes Go.WideShapes Go.ChangeAt Go.RowKit
set_option linter.unusedVariables false

theorem cellI_five {l : List It} {A : Nat → Option Addr} {N C : Nat → Nat} (i q : Nat) (hq : q < 5) :
    cellI l A N C (i * 5 + q) = if q = 0 then .int .i64 (l.getD i dIt).depth else if q = 1 then .string (l.getD i dIt).text else if q = 2 then .string (l.getD i dIt).space else if q = 3 then .string (l.getD i dIt).name else .slice (A i) (N i) (C i) := by
  unfold cellI
  rw [show (i * 5 + q) % 5 = q by omega, show (i * 5 + q) / 5 = i by omega]
/-- the cells of a row of items of one's own, in their order -/
theorem OwnIts.flat {w : World} {lo hi b n c : Nat} {l : List It} (h : OwnIts w lo hi (some ⟨b, 0, none⟩) n c l) (hn : n ≠ 0) :
    ∃ (A : Nat → Option Addr) (N C : Nat → Nat), (∀ j u, (flatI l A N C)[j]? = some u → w.cell? ((⟨b, 0, none⟩ : Addr).add j) = some u) ∧ (∀ i, i < n → OwnAts w lo hi (A i) (N i) (C i) (l.getD i dIt).attrs) := by
  obtain ⟨b', A, N, C, hb, _, _, _, hc, _, _⟩ := h.row.resolve_left hn
  simp only [Option.some.injEq, Addr.mk.injEq, and_true] at hb
  subst hb
  refine ⟨A, N, C, fun j u hj => ?_, fun i hi => (hc i hi).2⟩
  have hlt : j < l.length * 5 := by
    rcases Nat.lt_or_ge j (l.length * 5) with h1 | h1
    · exact h1
    · rw [List.getElem?_eq_none (by rw [flatI_length]; exact h1)] at hj; cases hj
  have hl := h.len
  rw [flatI_get _ _ _ _ _ hlt] at hj
  have hu := Option.some.inj hj
  have h5 := (hc (j / 5) (by omega)).1
  have e : j = j / 5 * 5 + j % 5 := by omega
  have hq : j % 5 < 5 := by omega
  rw [e] at hu ⊢
  rw [cellI_five _ _ hq] at hu
  rw [Addr.add_lit, Nat.zero_add]
  generalize j % 5 = q at hu hq ⊢
  generalize j / 5 = i at hu h5 ⊢
  rcases q with _ | _ | _ | _ | _ | q
  · rw [← hu]; exact h5.c0
  · rw [← hu]; exact h5.c1
  · rw [← hu]; exact h5.c2
  · rw [← hu]; exact h5.c3
  · rw [← hu]; exact h5.c4
  · omega
def WideIt (x : It) : Prop := (-9223372036854775808 ≤ x.depth ∧ x.depth ≤ 9223372036854775807) ∧ (x.text.size ≤ 9223372036854775807 ∧ x.space.size ≤ 9223372036854775807 ∧ x.name.size ≤ 9223372036854775807)
/-- behind an append of a row to a row that has grown -/
theorem its_join {w w1 : World} {B g m c k lo hi : Nat} {l l2 : List It} {A A2 : Nat → Option Addr} {N C N2 C2 : Nat → Nat} (h : GrowIts w B (.slice (some ⟨g, 0, none⟩) m c) m l A N C)
    (hl : ∀ i, i < m → WideIt (l.getD i dIt)) (hl2 : ∀ i, i < k → WideIt (l2.getD i dIt)) (hk : l2.length = k) (hmk : m + k ≤ 1048576)
    (h2 : ∀ i, i < k → OwnAts w lo hi (A2 i) (N2 i) (C2 i) (l2.getD i dIt).attrs) (hap : ∀ i, i < k → ∀ x, A2 i = some x → N2 i ≠ 0 → x.block ≠ g)
    {a : Option Addr} {q' : Nat} (hown : w1.ownsRow B 71 5 (.slice a (m + k) q') (m + k) (flatI l A N C ++ flatI l2 A2 N2 C2)) (hg : w.grownBy w1 (some g)) (hm : 0 < m) :
    ItsAt w1 a (m + k) q' (l ++ l2) := by
  have hlen := h.len
  rcases hown.2 with ⟨_, h0⟩ | ⟨g', cap, cur, hv, hb', hg', _⟩
  · omega
  · simp only [Value.slice.injEq] at hv
    obtain ⟨rfl, _, rfl⟩ := hv
    have hlt := (hown.lt g' rfl).2
    refine ⟨by rw [List.length_append]; omega, by omega, .inr ⟨g', 0, rfl, fun i hi => ?_⟩⟩
    rw [Nat.zero_add]
    by_cases hi2 : i < m
    · have e : (l ++ l2).getD i dIt = l.getD i dIt := by rw [List.getD_eq_getElem?_getD, List.getElem?_append_left (by omega), ← List.getD_eq_getElem?_getD]
      rw [e]
      have hc : ∀ q, q < 5 → w1.cell? ⟨g', i * 5 + q, none⟩ = some (cellI l A N C (i * 5 + q)) := fun q hq => by
        rw [hown.cellAt _ (by omega), List.getElem?_append_left (by rw [flatI_length]; omega), flatI_get _ _ _ _ _ (by omega)]
      have hw := hl i hi2
      refine ⟨hlt, hw.1, hw.2, (hc 0 (by omega)).trans (by rw [cellI_five i 0 (by omega)]; rfl), (hc 1 (by omega)).trans (by rw [cellI_five i 1 (by omega)]; rfl), (hc 2 (by omega)).trans (by rw [cellI_five i 2 (by omega)]; rfl), (hc 3 (by omega)).trans (by rw [cellI_five i 3 (by omega)]; rfl), A i, N i, C i, (hc 4 (by omega)).trans (by rw [cellI_five i 4 (by omega)]; rfl), ?_⟩
      exact (h.ats i (by omega)).1.ats.only (Only.grown hg) fun x hx hne hp => h.apart i (by omega) x hx hne (by simp only [Option.some.injEq] at hp; rw [hp]; rfl)
    · have e : (l ++ l2).getD i dIt = l2.getD (i - m) dIt := by rw [List.getD_eq_getElem?_getD, List.getElem?_append_right (by omega), hlen, ← List.getD_eq_getElem?_getD]
      rw [e]
      have hc : ∀ q, q < 5 → w1.cell? ⟨g', i * 5 + q, none⟩ = some (cellI l2 A2 N2 C2 ((i - m) * 5 + q)) := fun q hq => by
        rw [hown.cellAt _ (by omega), List.getElem?_append_right (by rw [flatI_length]; omega), flatI_length, show i * 5 + q - l.length * 5 = (i - m) * 5 + q by omega, flatI_get _ _ _ _ _ (by omega)]
      have hw := hl2 (i - m) (by omega)
      refine ⟨hlt, hw.1, hw.2, (hc 0 (by omega)).trans (by rw [cellI_five _ 0 (by omega)]; rfl), (hc 1 (by omega)).trans (by rw [cellI_five _ 1 (by omega)]; rfl), (hc 2 (by omega)).trans (by rw [cellI_five _ 2 (by omega)]; rfl), (hc 3 (by omega)).trans (by rw [cellI_five _ 3 (by omega)]; rfl), A2 (i - m), N2 (i - m), C2 (i - m), (hc 4 (by omega)).trans (by rw [cellI_five _ 4 (by omega)]; rfl), ?_⟩
      exact (h2 (i - m) (by omega)).ats.only (Only.grown hg) fun x hx hne hp => hap (i - m) (by omega) x hx hne (by simp only [Option.some.injEq] at hp; exact hp)
end Go.Proofs.YtppgdbejbhhjlaaGreatDoor

/- Rows of items that grow: attributes that are literals. -/
namespace Go.Proofs.YtppgdbejbhhjlaaGreatDoor
open Go.ChangeShapes Go.WideShapes Go.ChangeAt Go.RowKit
set_option linter.unusedVariables false

/-- two rows' cells, one behind the other -/
def joinA {α : Type} (n : Nat) (F G : Nat → α) (i : Nat) : α := if i < n then F i else G (i - n)
theorem flatI_join (l l2 : List It) (A A2 : Nat → Option Addr) (N N2 C C2 : Nat → Nat) : flatI (l ++ l2) (joinA l.length A A2) (joinA l.length N N2) (joinA l.length C C2) = flatI l A N C ++ flatI l2 A2 N2 C2 := by
  apply List.ext_getElem?
  intro j
  by_cases h1 : j < l.length * 5
  · have h2 : j / 5 < l.length := by omega
    rw [flatI_get _ _ _ _ _ (by rw [List.length_append]; omega), List.getElem?_append_left (by rw [flatI_length]; exact h1), flatI_get _ _ _ _ _ h1]
    have hl : (l ++ l2).getD (j / 5) dIt = l.getD (j / 5) dIt := by rw [List.getD_eq_getElem?_getD, List.getElem?_append_left h2, ← List.getD_eq_getElem?_getD]
    have g : ∀ {α : Type} (F G : Nat → α), joinA l.length F G (j / 5) = F (j / 5) := fun F G => by unfold joinA; rw [if_pos h2]
    unfold cellI
    rw [hl, g, g, g]
  · by_cases h3 : j < (l.length + l2.length) * 5
    · rw [flatI_get _ _ _ _ _ (by rw [List.length_append]; exact h3), List.getElem?_append_right (by rw [flatI_length]; omega), flatI_length, flatI_get _ _ _ _ _ (by omega)]
      have e5 : (j - l.length * 5) / 5 = j / 5 - l.length := by omega
      have e6 : (j - l.length * 5) % 5 = j % 5 := by omega
      have hl : (l ++ l2).getD (j / 5) dIt = l2.getD (j / 5 - l.length) dIt := by rw [List.getD_eq_getElem?_getD, List.getElem?_append_right (by omega), ← List.getD_eq_getElem?_getD]
      have g : ∀ {α : Type} (F G : Nat → α), joinA l.length F G (j / 5) = G (j / 5 - l.length) := fun F G => by unfold joinA; rw [if_neg (by omega)]
      unfold cellI
      rw [hl, g, g, g, e5, e6]
    · rw [List.getElem?_eq_none (by rw [flatI_length, List.length_append]; omega), List.getElem?_eq_none (by rw [List.length_append, flatI_length, flatI_length]; omega)]
/-- behind an append of a row of items of one's own -/
theorem GrowIts.join {w w0 w1 : World} {B : Nat} {v v' : Value} {n k : Nat} {l l2 : List It} {A A2 : Nat → Option Addr} {N C N2 C2 : Nat → Nat}
    (h : GrowIts w B v n l A N C) (hw : Below w.heap.size w w0) (hk : l2.length = k) (hA : ∀ i, i < k → OwnAts w0 w.heap.size w0.heap.size (A2 i) (N2 i) (C2 i) (l2.getD i dIt).attrs ∧ (A2 i = none → C2 i = 0))
    (hE : ∀ i j, i < k → j < k → i ≠ j → ∀ x y, A2 i = some x → A2 j = some y → N2 i ≠ 0 → N2 j ≠ 0 → x.block ≠ y.block) (hB : B ≤ w.heap.size)
    (hr : w1.ownsRow B 71 5 v' (n + k) (flatI l A N C ++ flatI l2 A2 N2 C2)) (hg : w0.grownBy w1 v.ownBlock) (hv : v'.ownBlock = v.ownBlock ∨ ∃ g, v'.ownBlock = some g ∧ w0.heap.size ≤ g) :
    GrowIts w1 B v' (n + k) (l ++ l2) (joinA l.length A A2) (joinA l.length N N2) (joinA l.length C C2) := by
  have hon := Only.grown hg
  have hs0 := hw.size
  have hs1 := hg.size
  have hvlt : ∀ g, v.ownBlock = some g → g < w.heap.size := fun g hgb => (h.row.lt g hgb).2
  have hold : ∀ i, i < l.length → ∀ z, A i = some z → N i ≠ 0 → B ≤ z.block ∧ z.block < w.heap.size := fun i hi z hz hne => (h.ats i hi).1.in hz hne
  have hnew : ∀ i, i < k → ∀ z, A2 i = some z → N2 i ≠ 0 → w.heap.size ≤ z.block ∧ z.block < w0.heap.size := fun i hi z hz hne => (hA i hi).1.in hz hne
  have j1 : ∀ {α : Type} (F G : Nat → α) (i : Nat), i < l.length → joinA l.length F G i = F i := fun F G i hi => by unfold joinA; rw [if_pos hi]
  have j2 : ∀ {α : Type} (F G : Nat → α) (i : Nat), l.length ≤ i → joinA l.length F G i = G (i - l.length) := fun F G i hi => by unfold joinA; rw [if_neg (by omega)]
  have hlen : ∀ i, i < (l ++ l2).length → i < l.length ∨ (l.length ≤ i ∧ i - l.length < k) := fun i hi => by
    rw [List.length_append] at hi
    omega
  have hvn : ∀ z : Addr, w.heap.size ≤ z.block → z.block < w0.heap.size → v'.ownBlock ≠ some z.block := fun z h1 h2 hq => by
    rcases hv with hv | ⟨g, hv, hg2⟩
    · rw [hv] at hq
      have := hvlt _ hq
      omega
    · rw [hv] at hq
      simp only [Option.some.injEq] at hq
      omega
  refine ⟨by rw [flatI_join]; exact hr, fun i hi => ?_, fun i hi z hz hne => ?_, fun i j hi hj hij z z' hz hz' hn hn' => ?_⟩
  · rcases hlen i hi with h1 | ⟨h1, h2⟩
    · rw [j1 _ _ _ h1, j1 _ _ _ h1, j1 _ _ _ h1]
      have hl : (l ++ l2).getD i dIt = l.getD i dIt := by rw [List.getD_eq_getElem?_getD, List.getElem?_append_left h1, ← List.getD_eq_getElem?_getD]
      rw [hl]
      have h0 := (h.ats i h1).1.only (Only.below (P := fun _ => False) hw) fun _ _ _ h => h
      have h3 := h0.only hon fun z hz hne hq => h.apart i h1 z hz hne hq.symm
      exact ⟨⟨h3.ats, h3.own.imp id fun ⟨b, g1, g2, g3, g4⟩ => ⟨b, g1, g2, by omega, g4⟩⟩, (h.ats i h1).2⟩
    · rw [j2 _ _ _ h1, j2 _ _ _ h1, j2 _ _ _ h1]
      have hl : (l ++ l2).getD i dIt = l2.getD (i - l.length) dIt := by rw [List.getD_eq_getElem?_getD, List.getElem?_append_right h1, ← List.getD_eq_getElem?_getD]
      rw [hl]
      have h3 := (hA _ h2).1.only hon fun z hz hne hq => by
        have g1 := (hnew _ h2 z hz hne).1
        have g2 := hvlt z.block hq.symm
        omega
      exact ⟨⟨h3.ats, h3.own.imp id fun ⟨b, g1, g2, g3, g4⟩ => ⟨b, g1, by omega, by omega, g4⟩⟩, (hA _ h2).2⟩
  · rcases hlen i hi with h1 | ⟨h1, h2⟩
    · rw [j1 _ _ _ h1] at hz hne
      have g1 := hold i h1 z hz hne
      rcases hv with hv | ⟨g, hv, hg2⟩
      · rw [hv]
        exact h.apart i h1 z hz hne
      · rw [hv]
        intro hq
        simp only [Option.some.injEq] at hq
        omega
    · rw [j2 _ _ _ h1] at hz hne
      have g1 := hnew _ h2 z hz hne
      exact hvn z g1.1 g1.2
  · rcases hlen i hi with h1 | ⟨h1, h2⟩
    · rw [j1 _ _ _ h1] at hz hn
      have g1 := hold i h1 z hz hn
      rcases hlen j hj with h3 | ⟨h3, h4⟩
      · rw [j1 _ _ _ h3] at hz' hn'
        exact h.each i j h1 h3 hij z z' hz hz' hn hn'
      · rw [j2 _ _ _ h3] at hz' hn'
        have g2 := hnew _ h4 z' hz' hn'
        omega
    · rw [j2 _ _ _ h1] at hz hn
      have g1 := hnew _ h2 z hz hn
      rcases hlen j hj with h3 | ⟨h3, h4⟩
      · rw [j1 _ _ _ h3] at hz' hn'
        have g2 := hold j h3 z' hz' hn'
        omega
      · rw [j2 _ _ _ h3] at hz' hn'
        exact hE _ _ h2 h4 (by omega) z z' hz hz' hn hn'
/-- a row of one item -/
theorem grow_root2 {w : World} {B n c : Nat} {a : Option Addr} (x : It) (hB : B ≤ w.heap.size) (h : OwnAts w B w.heap.size a n c x.attrs) (hnil : a = none → c = 0) :
    GrowIts (w.alloc (.cells #[.int .i64 x.depth, .string x.text, .string x.space, .string x.name, .slice a n c] 71)) B (.slice (some ⟨w.heap.size, 0, none⟩) 1 1) 1 [x] (fun _ => a) (fun _ => n) (fun _ => c) := by
  have hl := World.ownsRow_lit (base := B) (e := 71) (size := 5) w #[.int .i64 x.depth, .string x.text, .string x.space, .string x.name, .slice a n c] 1 hB (by decide) (by simp)
  have hown := h.only (Only.below (P := fun _ => False) (below1 w (.cells #[.int .i64 x.depth, .string x.text, .string x.space, .string x.name, .slice a n c] 71))) fun _ _ _ h => h
  have ef : flatI [x] (fun _ => a) (fun _ => n) (fun _ => c) = (#[.int .i64 x.depth, .string x.text, .string x.space, .string x.name, .slice a n c] : Array Value).toList := by
    show List.map (cellI [x] (fun _ => a) (fun _ => n) (fun _ => c)) (List.range 5) = _
    rw [show List.range 5 = [0, 1, 2, 3, 4] from by decide]
    simp [cellI]
  refine ⟨by rw [ef]; exact hl, fun i hi => ?_, fun i hi y hy hne => ?_, fun i j hi hj hij => ?_⟩
  · have h0 : i = 0 := by simpa using hi
    subst h0
    exact ⟨⟨hown.ats, hown.own.imp id fun ⟨b, h1, h2, h3, h4⟩ => ⟨b, h1, h2, by simp; omega, h4⟩⟩, hnil⟩
  · have g1 := hown.in hy hne
    simp only [Value.ownBlock]
    intro e
    simp only [Option.some.injEq] at e
    omega
  · simp at hi hj
    omega

/-- a row of one attribute, laid by a literal -/
theorem lit_ats1 (w : World) (B : Nat) (hB : B ≤ w.heap.size) (nm v : ByteArray) (h1 : nm.size ≤ 9223372036854775807) (h2 : v.size ≤ 9223372036854775807) :
    OwnAts (w.alloc (.cells #[.string nm, .string v] 69)) B (w.alloc (.cells #[.string nm, .string v] 69)).heap.size (some ⟨w.heap.size, 0, none⟩) 1 1 [⟨nm, v⟩] := by
  have hl := World.ownsRow_lit (base := B) (e := 69) (size := 2) w #[.string nm, .string v] 1 hB (by decide) (by simp)
  have ef : flatA [⟨nm, v⟩] = (#[.string nm, .string v] : Array Value).toList := by
    show List.map _ (List.range 2) = _
    rw [show List.range 2 = [0, 1] from by decide]
    simp
  rw [← ef] at hl
  refine ownAts_of hl (by decide) fun i => ?_
  match i with
  | 0 => exact ⟨h1, h2⟩
  | i + 1 => exact ⟨by show (0 : Nat) ≤ _; omega, by show (0 : Nat) ≤ _; omega⟩
theorem OwnAts.later {w w' : World} {lo hi hi' : Nat} {a : Option Addr} {n c : Nat} {l : List At} (h : OwnAts w lo hi a n c l) (hb : Below w.heap.size w w') (hh : hi ≤ hi') : OwnAts w' lo hi' a n c l := by
  have h1 := h.only (Only.below (P := fun _ => False) hb) fun _ _ _ h => h
  exact ⟨h1.ats, h1.own.imp id fun ⟨b, g1, g2, g3, g4⟩ => ⟨b, g1, g2, by omega, g4⟩⟩
def one2 {α : Type} (a z : α) (i : Nat) : α := if i = 0 then a else z
theorem flatI_two (x y : It) (a : Option Addr) (m c : Nat) : flatI [x, y] (one2 a none) (one2 m 0) (one2 c 0) = [.int .i64 x.depth, .string x.text, .string x.space, .string x.name, .slice a m c, .int .i64 y.depth, .string y.text, .string y.space, .string y.name, .slice none 0 0] := by
  show List.map (cellI [x, y] _ _ _) (List.range 10) = _
  rw [show List.range 10 = [0, 1, 2, 3, 4, 5, 6, 7, 8, 9] from by decide]
  simp [cellI, one2]
/-- behind an append of two items, of which the first one has attributes -/
theorem GrowIts.two1 {w w0 w1 : World} {B : Nat} {v v' : Value} {n : Nat} {l : List It} {A : Nat → Option Addr} {N C : Nat → Nat} {x y : It} {a : Option Addr} {m c : Nat}
    (h : GrowIts w B v n l A N C) (hw : Below w.heap.size w w0) (ha : OwnAts w0 w.heap.size w0.heap.size a m c x.attrs) (hnil : a = none → c = 0) (hy : y.attrs = []) (hB : B ≤ w.heap.size)
    (hr : w1.ownsRow B 71 5 v' (n + 2) (flatI l A N C ++ [.int .i64 x.depth, .string x.text, .string x.space, .string x.name, .slice a m c, .int .i64 y.depth, .string y.text, .string y.space, .string y.name, .slice none 0 0])) (hg : w0.grownBy w1 v.ownBlock)
    (hv : v'.ownBlock = v.ownBlock ∨ ∃ g, v'.ownBlock = some g ∧ w0.heap.size ≤ g) :
    ∃ (A' : Nat → Option Addr) (N' C' : Nat → Nat), GrowIts w1 B v' (n + 2) (l ++ [x, y]) A' N' C' := by
  refine ⟨_, _, _, h.join (l2 := [x, y]) (A2 := one2 a none) (N2 := one2 m 0) (C2 := one2 c 0) hw rfl (fun i hi => ?_) (fun i j hi hj hij p q hp hq hn hn' => ?_) hB (by rw [flatI_two]; exact hr) hg hv⟩
  · match i, hi with
    | 0, _ => exact ⟨ha, hnil⟩
    | 1, _ =>
      show OwnAts w0 w.heap.size w0.heap.size none 0 0 y.attrs ∧ _
      rw [hy]
      exact ⟨bareAts _ _ _, fun _ => rfl⟩
  · match i, j, hi, hj with
    | 0, 0, _, _ => exact absurd rfl hij
    | 0, 1, _, _ => cases hq
    | 1, _, _, _ => cases hp
end Go.Proofs.YtppgdbejbhhjlaaGreatDoor
