/- Two rows of items, one appended to the other. -/
import Derived.Test.YtpafknmfacgccaaGreatDoorGT20
import Derived.Test.YtpafknmfacgccaaGreatDoorGT28
import Derived.Test.YtpafknmfacgccaaGreatDoorGT16
import Derived.Test.YtpafknmfacgccaaGreatDoorGT23
import Derived.Test.YtpafknmfacgccaaGreatDoorGT25
import Derived.Test.YtpafknmfacgccaaGreatDoorGT26
import Derived.Test.YtpafknmfacgccaaGreatDoorGT27
namespace Go.Proofs.YtpafknmfacgccaaGreatDoor
open Go.ChangeShapes Go.WideShapes Go.ChangeAt Go.RowKit
set_option linter.unusedVariables false

theorem cellI_five {l : List It} {A : Nat → Option Addr} {N C : Nat → Nat} (i q : Nat) (hq : q < 5) :
    cellI l A N C (i * 5 + q) = if q = 0 then .int .i64 (l.getD i dIt).depth else if q = 1 then .string (l.getD i dIt).text else if q = 2 then .string (l.getD i dIt).space else if q = 3 then .string (l.getD i dIt).name else .slice (A i) (N i) (C i) := by
  unfold cellI
  rw [show (i * 5 + q) % 5 = q by omega, show (i * 5 + q) / 5 = i by omega]
/-- the cells of a row of items of one's own, in their order -/
theorem OwnIts.flat {w : World} {lo hi b n c : Nat} {l : List It} (h : OwnIts w lo hi (some ⟨b, 0, none⟩) n c l) (hn : n ≠ 0) :
    ∃ (A : Nat → Option Addr) (N C : Nat → Nat), (∀ j u, (flatI l A N C)[j]? = some u → w.cell? ((⟨b, 0, none⟩ : Addr).add j) = some u) ∧ (∀ i, i < n → OwnAts w lo hi (A i) (N i) (C i) (l.getD i dIt).attrs) := by
  obtain ⟨b', A, N, C, hb, _, _, _, hc, _, _⟩ := h.row.resolve_left hn
  simp only [Option.some.injEq, Addr.mk.injEq, and_true] at hb
  subst hb
  refine ⟨A, N, C, fun j u hj => ?_, fun i hi => (hc i hi).2⟩
  have hlt : j < l.length * 5 := by
    rcases Nat.lt_or_ge j (l.length * 5) with h1 | h1
    · exact h1
    · rw [List.getElem?_eq_none (by rw [flatI_length]; exact h1)] at hj; cases hj
  have hl := h.len
  rw [flatI_get _ _ _ _ _ hlt] at hj
  have hu := Option.some.inj hj
  have h5 := (hc (j / 5) (by omega)).1
  have e : j = j / 5 * 5 + j % 5 := by omega
  have hq : j % 5 < 5 := by omega
  rw [e] at hu ⊢
  rw [cellI_five _ _ hq] at hu
  rw [Addr.add_lit, Nat.zero_add]
  generalize j % 5 = q at hu hq ⊢
  generalize j / 5 = i at hu h5 ⊢
  rcases q with _ | _ | _ | _ | _ | q
  · rw [← hu]; exact h5.c0
  · rw [← hu]; exact h5.c1
  · rw [← hu]; exact h5.c2
  · rw [← hu]; exact h5.c3
  · rw [← hu]; exact h5.c4
  · omega
def WideIt (x : It) : Prop := (-9223372036854775808 ≤ x.depth ∧ x.depth ≤ 9223372036854775807) ∧ (x.text.size ≤ 9223372036854775807 ∧ x.space.size ≤ 9223372036854775807 ∧ x.name.size ≤ 9223372036854775807)
/-- behind an append of a row to a row that has grown -/
theorem its_join {w w1 : World} {B g m c k lo hi : Nat} {l l2 : List It} {A A2 : Nat → Option Addr} {N C N2 C2 : Nat → Nat} (h : GrowIts w B (.slice (some ⟨g, 0, none⟩) m c) m l A N C)
    (hl : ∀ i, i < m → WideIt (l.getD i dIt)) (hl2 : ∀ i, i < k → WideIt (l2.getD i dIt)) (hk : l2.length = k) (hmk : m + k ≤ 1048576)
    (h2 : ∀ i, i < k → OwnAts w lo hi (A2 i) (N2 i) (C2 i) (l2.getD i dIt).attrs) (hap : ∀ i, i < k → ∀ x, A2 i = some x → N2 i ≠ 0 → x.block ≠ g)
    {a : Option Addr} {q' : Nat} (hown : w1.ownsRow B 68 5 (.slice a (m + k) q') (m + k) (flatI l A N C ++ flatI l2 A2 N2 C2)) (hg : w.grownBy w1 (some g)) (hm : 0 < m) :
    ItsAt w1 a (m + k) q' (l ++ l2) := by
  have hlen := h.len
  rcases hown.2 with ⟨_, h0⟩ | ⟨g', cap, cur, hv, hb', hg', _⟩
  · omega
  · simp only [Value.slice.injEq] at hv
    obtain ⟨rfl, _, rfl⟩ := hv
    have hlt := (hown.lt g' rfl).2
    refine ⟨by rw [List.length_append]; omega, by omega, .inr ⟨g', 0, rfl, fun i hi => ?_⟩⟩
    rw [Nat.zero_add]
    by_cases hi2 : i < m
    · have e : (l ++ l2).getD i dIt = l.getD i dIt := by rw [List.getD_eq_getElem?_getD, List.getElem?_append_left (by omega), ← List.getD_eq_getElem?_getD]
      rw [e]
      have hc : ∀ q, q < 5 → w1.cell? ⟨g', i * 5 + q, none⟩ = some (cellI l A N C (i * 5 + q)) := fun q hq => by
        rw [hown.cellAt _ (by omega), List.getElem?_append_left (by rw [flatI_length]; omega), flatI_get _ _ _ _ _ (by omega)]
      have hw := hl i hi2
      refine ⟨hlt, hw.1, hw.2, (hc 0 (by omega)).trans (by rw [cellI_five i 0 (by omega)]; rfl), (hc 1 (by omega)).trans (by rw [cellI_five i 1 (by omega)]; rfl), (hc 2 (by omega)).trans (by rw [cellI_five i 2 (by omega)]; rfl), (hc 3 (by omega)).trans (by rw [cellI_five i 3 (by omega)]; rfl), A i, N i, C i, (hc 4 (by omega)).trans (by rw [cellI_five i 4 (by omega)]; rfl), ?_⟩
      exact (h.ats i (by omega)).1.ats.only (Only.grown hg) fun x hx hne hp => h.apart i (by omega) x hx hne (by simp only [Option.some.injEq] at hp; rw [hp]; rfl)
    · have e : (l ++ l2).getD i dIt = l2.getD (i - m) dIt := by rw [List.getD_eq_getElem?_getD, List.getElem?_append_right (by omega), hlen, ← List.getD_eq_getElem?_getD]
      rw [e]
      have hc : ∀ q, q < 5 → w1.cell? ⟨g', i * 5 + q, none⟩ = some (cellI l2 A2 N2 C2 ((i - m) * 5 + q)) := fun q hq => by
        rw [hown.cellAt _ (by omega), List.getElem?_append_right (by rw [flatI_length]; omega), flatI_length, show i * 5 + q - l.length * 5 = (i - m) * 5 + q by omega, flatI_get _ _ _ _ _ (by omega)]
      have hw := hl2 (i - m) (by omega)
      refine ⟨hlt, hw.1, hw.2, (hc 0 (by omega)).trans (by rw [cellI_five _ 0 (by omega)]; rfl), (hc 1 (by omega)).trans (by rw [cellI_five _ 1 (by omega)]; rfl), (hc 2 (by omega)).trans (by rw [cellI_five _ 2 (by omega)]; rfl), (hc 3 (by omega)).trans (by rw [cellI_five _ 3 (by omega)]; rfl), A2 (i - m), N2 (i - m), C2 (i - m), (hc 4 (by omega)).trans (by rw [cellI_five _ 4 (by omega)]; rfl), ?_⟩
      exact (h2 (i - m) (by omega)).ats.only (Only.grown hg) fun x hx hne hp => hap (i - m) (by omega) x hx hne (by simp only [Option.some.injEq] at hp; exact hp)
end Go.Proofs.YtpafknmfacgccaaGreatDoor

/- Facts for the trees of presences. -/
namespace Go.Proofs.YtpafknmfacgccaaGreatDoor
open Go.ChangeShapes Go.WideShapes Go.ChangeAt Go.RowKit
set_option linter.unusedVariables false


theorem empty_str {s : ByteArray} (h : s.toList.isEmpty = true) : s = ⟨#[]⟩ := by
  rw [ByteArray.toList_eq, List.isEmpty_iff] at h
  cases s with
  | mk d =>
    congr 1
    exact Array.toList_eq_nil_iff.1 h
theorem item_text {x : It} (h : itemCode x = 0) (hx : x.name.toList.isEmpty = true) : x.name = ⟨#[]⟩ ∧ x.space = ⟨#[]⟩ ∧ x.attrs = [] := by
  unfold itemCode at h
  split at h
  · omega
  · unfold textCode at h
    split at h
    · omega
    · rename_i h1 h2
      have h3 : x.space.toList.isEmpty = true := by
        cases e : x.space.toList.isEmpty
        · exact absurd (.inl e) h2
        · rfl
      have h4 : x.attrs.length = 0 := by
        rcases Nat.eq_zero_or_pos x.attrs.length with e | e
        · exact e
        · exact absurd (.inr (.inl e)) h2
      exact ⟨empty_str hx, empty_str h3, List.length_eq_zero_iff.1 h4⟩
theorem item_elem {x : It} (h : itemCode x = 0) (hx : x.name.toList.isEmpty = false) : x.text = ⟨#[]⟩ := by
  unfold itemCode at h
  split at h
  · omega
  · rw [if_neg (by rw [hx]; simp)] at h
    unfold elemCode at h
    split at h
    · omega
    · rename_i h2
      refine empty_str ?_
      cases e : x.text.toList.isEmpty
      · exact absurd e h2
      · rfl
/-- what the code 0 tells of a presence -/
structure GoodPr (p : Pr) : Prop where
  kind : 0 ≤ p.kind ∧ p.kind ≤ 6
  shown : 0 ≤ p.shown ∧ p.shown ≤ 4
  prio : -128 ≤ p.prio ∧ p.prio ≤ 127
  few : p.more.length ≤ 20
  each : ∀ i, i < p.more.length → itemCode (p.more.getD i dIt) = 0
theorem goodPr {p : Pr} (h : presCode p = 0) : GoodPr p := by
  unfold presCode at h
  split at h
  · omega
  · rename_i h1
    split at h
    · rename_i h2; exact absurd h h2
    · split at h
      · omega
      · rw [Bool.not_eq_false, Bool.and_eq_true, Bool.and_eq_true] at h1
        obtain ⟨⟨k1, k2⟩, k3⟩ := h1
        have hf : p.more.length ≤ 20 := by
          unfold moreCode at h
          split at h
          · omega
          · omega
        refine ⟨by simpa [inB] using k1, by simpa [inB] using k2, by simpa [inB] using k3, hf, fun i hi => ?_⟩
        unfold moreCode at h
        rw [if_neg (by omega)] at h
        cases hg : p.more.find? (fun x => moreAt x != 0) with
        | some y =>
          rw [hg] at h
          have := List.find?_some hg
          rw [bne_iff_ne] at this
          exact absurd h this
        | none =>
          rw [List.find?_eq_none] at hg
          have hm := hg (p.more.getD i dIt) (by rw [List.getD_eq_getElem?_getD, List.getElem?_eq_getElem hi]; exact List.getElem_mem hi)
          have h0 : moreAt (p.more.getD i dIt) = 0 := by simpa using hm
          unfold moreAt at h0
          split at h0
          · rename_i h5; exact absurd h0 h5
          · rename_i h5; exact Decidable.not_not.1 h5
theorem ats_lit3 (W : World) (s0 t0 s1 t1 s2 t2 : ByteArray) (h : s0.size ≤ 9223372036854775807 ∧ t0.size ≤ 9223372036854775807 ∧ s1.size ≤ 9223372036854775807 ∧ t1.size ≤ 9223372036854775807 ∧ s2.size ≤ 9223372036854775807 ∧ t2.size ≤ 9223372036854775807) :
    AtsAt (W.alloc (.cells #[.string s0, .string t0, .string s1, .string t1, .string s2, .string t2] 66)) (some ⟨W.heap.size, 0, none⟩) 3 3 [⟨s0, t0⟩, ⟨s1, t1⟩, ⟨s2, t2⟩] := by
  refine ⟨rfl, by omega, fun i => ?_, .inr ⟨W.heap.size, 0, rfl, by simp, fun i hi => ?_⟩⟩
  · match i with
    | 0 => exact ⟨h.1, h.2.1⟩
    | 1 => exact ⟨h.2.2.1, h.2.2.2.1⟩
    | 2 => exact ⟨h.2.2.2.2.1, h.2.2.2.2.2⟩
    | i + 3 => simp [dAt]
  · match i, hi with
    | 0, _ => exact ⟨by simp, by simp⟩
    | 1, _ => exact ⟨by simp, by simp⟩
    | 2, _ => exact ⟨by simp, by simp⟩
/-- a row of one item -/
theorem grow_root {w : World} {B n c : Nat} {a : Option Addr} {l : List At} (x : It) (hx : x.attrs = l) (hB : B ≤ w.heap.size) (h : w.ownsRow B 66 2 (.slice a n c) n (flatA l)) (hn : n ≤ 100)
    (hs : ∀ i, (l.getD i dAt).name.size ≤ 9223372036854775807 ∧ (l.getD i dAt).value.size ≤ 9223372036854775807) :
    GrowIts (w.alloc (.cells #[.int .i64 x.depth, .string x.text, .string x.space, .string x.name, .slice a n c] 68)) B (.slice (some ⟨w.heap.size, 0, none⟩) 1 1) 1 [x] (fun _ => a) (fun _ => n) (fun _ => c) := by
  have hl := World.ownsRow_lit (base := B) (e := 68) (size := 5) w #[.int .i64 x.depth, .string x.text, .string x.space, .string x.name, .slice a n c] 1 hB (by decide) (by simp)
  have hown := (ownAts_of h (by omega) hs).only (Only.below (P := fun _ => False) (below1 w (.cells #[.int .i64 x.depth, .string x.text, .string x.space, .string x.name, .slice a n c] 68))) fun _ _ _ h => h
  have ef : flatI [x] (fun _ => a) (fun _ => n) (fun _ => c) = (#[.int .i64 x.depth, .string x.text, .string x.space, .string x.name, .slice a n c] : Array Value).toList := by
    show List.map (cellI [x] (fun _ => a) (fun _ => n) (fun _ => c)) (List.range 5) = _
    rw [show List.range 5 = [0, 1, 2, 3, 4] from by decide]
    simp [cellI]
  refine ⟨by rw [ef]; exact hl, fun i hi => ?_, fun i hi y hy hne => ?_, fun i j hi hj hij => ?_⟩
  · have h0 : i = 0 := by simpa using hi
    subst h0
    have e : ([x].getD 0 dIt).attrs = l := hx
    rw [e]
    refine ⟨⟨hown.ats, hown.own.imp id fun ⟨b, h1, h2, h3, h4⟩ => ⟨b, h1, h2, by simp; omega, h4⟩⟩, fun e => ?_⟩
    subst e
    rcases h.2 with ⟨hv, _⟩ | ⟨g, cap, cur, hv, _⟩
    · simp only [Value.slice.injEq] at hv
      exact hv.2.2
    · cases hv
  · have g1 := hown.in hy hne
    simp only [Value.ownBlock]
    intro e
    simp only [Option.some.injEq] at e
    omega
  · simp at hi hj
    omega
theorem below_al {w W : World} (h : Below w.heap.size w W) (x : Obj) : Below w.heap.size w (W.alloc x) := h.alloc h.size x
theorem wide_part {nm t : ByteArray} (h1 : nm.size ≤ 9223372036854775807) (h2 : t.size ≤ 9223372036854775807) : ∀ x ∈ partL nm t, WideIt x := by
  intro x hx
  unfold partL at hx
  split at hx
  · cases hx
  · simp only [List.mem_cons, List.not_mem_nil, or_false] at hx
    rcases hx with rfl | rfl
    · exact ⟨⟨by show -9223372036854775808 ≤ (1 : Int); omega, by show (1 : Int) ≤ _; omega⟩, by show (⟨#[]⟩ : ByteArray).size ≤ 9223372036854775807; decide, by show csT.size ≤ 9223372036854775807; decide, h1⟩
    · exact ⟨⟨by show -9223372036854775808 ≤ (2 : Int); omega, by show (2 : Int) ≤ _; omega⟩, h2, by show (⟨#[]⟩ : ByteArray).size ≤ 9223372036854775807; decide, by show (⟨#[]⟩ : ByteArray).size ≤ 9223372036854775807; decide⟩
theorem wide_head {p : Pr} (h : GoodPr p) (hs : p.status.size ≤ 9223372036854775807) : ∀ x ∈ headL p, WideIt x := by
  have hw : (showW p.shown).size ≤ 9223372036854775807 := by
    have : ∀ j, (showWs.getD j ByteArray.empty).size ≤ 20 := by
      intro j
      match j with
      | 0 => decide
      | 1 => decide
      | 2 => decide
      | 3 => decide
      | 4 => decide
      | j + 5 =>
        rw [List.getD_eq_getElem?_getD, List.getElem?_eq_none (by show 5 ≤ j + 5; omega)]
        decide
    have := this p.shown.toNat
    unfold showW
    omega
  have hp : (prioT p.prio).size ≤ 9223372036854775807 := by
    unfold prioT
    split
    · decide
    · have hs := digT_size19 (n := p.prio.natAbs) (by have := h.prio; omega)
      unfold numT
      split
      · rw [ByteArray.size_append]
        have : (⟨#[45]⟩ : ByteArray).size = 1 := rfl
        omega
      · omega
  intro x hx
  unfold headL at hx
  rw [List.mem_append, List.mem_append, List.mem_append] at hx
  rcases hx with ((hx | hx) | hx) | hx
  · rw [List.mem_singleton] at hx
    subst hx
    exact ⟨⟨by show -9223372036854775808 ≤ (0 : Int); omega, by show (0 : Int) ≤ _; omega⟩, by show (⟨#[]⟩ : ByteArray).size ≤ 9223372036854775807; decide, by show csT.size ≤ 9223372036854775807; decide, by show prT.size ≤ 9223372036854775807; decide⟩
  · exact wide_part (by decide) hw x hx
  · exact wide_part (by decide) hs x hx
  · exact wide_part (by decide) hp x hx
theorem wide_tree {HL pm : List It} {n : Nat} (h1 : ∀ x ∈ HL, WideIt x) (h2 : ∀ i, i < n → 0 ≤ (pm.getD i dIt).depth ∧ (pm.getD i dIt).depth ≤ 6) (h3 : ∀ i, i < n → SmallIt (pm.getD i dIt)) :
    ∀ i, i < HL.length + n → WideIt ((HL ++ movedTo pm 0 n 1).getD i dIt) := by
  intro i hi
  by_cases h : i < HL.length
  · rw [List.getD_eq_getElem?_getD, List.getElem?_append_left h, List.getElem?_eq_getElem h]
    exact h1 _ (List.getElem_mem h)
  · have e : (HL ++ movedTo pm 0 n 1).getD i dIt = (movedTo pm 0 n 1).getD (i - HL.length) dIt := by
      rw [List.getD_eq_getElem?_getD, List.getElem?_append_right (by omega), ← List.getD_eq_getElem?_getD]
    rw [e, movedTo_get _ _ _ _ _ (by omega)]
    have a := h2 (0 + (i - HL.length)) (by omega)
    have b := (h3 (0 + (i - HL.length)) (by omega)).1
    exact ⟨⟨by show _ ≤ (pm.getD (0 + (i - HL.length)) dIt).depth + 1; omega, by show (pm.getD (0 + (i - HL.length)) dIt).depth + 1 ≤ _; omega⟩, by show (pm.getD (0 + (i - HL.length)) dIt).text.size ≤ _; omega, by show (pm.getD (0 + (i - HL.length)) dIt).space.size ≤ _; omega, by show (pm.getD (0 + (i - HL.length)) dIt).name.size ≤ _; omega⟩
theorem alloc_keep {W : World} {p : Addr} {v : Value} (h : W.cell? p = some v) (x : Obj) : (W.alloc x).cell? p = some v := ((below1 W x).cell (World.block_lt_of_cell? _ _ h)).trans h
theorem grown_on {B : Nat} {W0 W w' : World} {v : Value} {n : Nat} {l : List It} {A : Nat → Option Addr} {N C : Nat → Nat} (h0 : Below B W0 W) (hB : B ≤ W0.heap.size) (h : GrowIts W B v n l A N C) (hg : W.grownBy w' v.ownBlock) : Below B W0 w' :=
  h0.grown hg (Nat.le_trans hB h0.size) (fun j hj => (h.row.lt j hj).1)
/-- a code, and items of one's own -/
def TreeOwn (w : World) (cd : Int) (l : List It) (e : Ending) (w' : World) : Prop := ∃ a n c, e = .returned (.agg #[.int .i64 cd, .slice a n c]) ∧ OwnIts w' w.heap.size w'.heap.size a n c l ∧ Below w.heap.size w w'
def treeT (p : Pr) : List It := if presCode p = 0 then treeL p else []
theorem attrs3_small {p : Pr} (h1 : p.sender.size ≤ 9223372036854775807) (h2 : p.goal.size ≤ 9223372036854775807) (i : Nat) : ((attrs3 p).getD i dAt).name.size ≤ 9223372036854775807 ∧ ((attrs3 p).getD i dAt).value.size ≤ 9223372036854775807 := by
  have hk : (kindW p.kind).size ≤ 9223372036854775807 := by
    have : ∀ j, (kindWs.getD j ByteArray.empty).size ≤ 20 := by
      intro j
      match j with
      | 0 => decide
      | 1 => decide
      | 2 => decide
      | 3 => decide
      | 4 => decide
      | 5 => decide
      | 6 => decide
      | j + 7 =>
        rw [List.getD_eq_getElem?_getD, List.getElem?_eq_none (by show 7 ≤ j + 7; omega)]
        decide
    have := this p.kind.toNat
    unfold kindW
    omega
  have key : ∀ x ∈ attrs3 p, x.name.size ≤ 9223372036854775807 ∧ x.value.size ≤ 9223372036854775807 := by
    intro x hx
    rw [← filled_three] at hx
    have hm := (List.mem_filter.1 hx).1
    simp only [List.mem_cons, List.not_mem_nil, or_false] at hm
    rcases hm with rfl | rfl | rfl
    · exact ⟨by show fromT.size ≤ _; decide, h1⟩
    · exact ⟨by show toT.size ≤ _; decide, h2⟩
    · exact ⟨by show typeT.size ≤ _; decide, hk⟩
  rcases Nat.lt_or_ge i (attrs3 p).length with h | h
  · rw [List.getD_eq_getElem?_getD, List.getElem?_eq_getElem h]
    exact key _ (List.getElem_mem h)
  · rw [List.getD_eq_getElem?_getD, List.getElem?_eq_none h]
    exact ⟨by decide, by decide⟩
end Go.Proofs.YtpafknmfacgccaaGreatDoor
