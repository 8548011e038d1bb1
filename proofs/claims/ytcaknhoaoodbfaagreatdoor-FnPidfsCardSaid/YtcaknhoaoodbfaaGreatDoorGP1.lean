/- spec.l4Item, spec.l4Moved, spec.l4All. -/
import Derived.Test.YtcaknhoaoodbfaaGreatDoorGP0
import Derived.Maps.AppendAt
import Derived.Laws.IdiomStrings
namespace Go.Proofs.YtcaknhoaoodbfaaGreatDoor
open Go.ChangeShapes Go.WideShapes Go.ChangeAt Go.RowKit
set_option linter.unusedVariables false
set_option maxRecDepth 100000 in
set_option maxHeartbeats 1600000 in
theorem specItem_any (b o : Nat) (x : It) (by_ : Int) (w : World) (hd : -1000 ≤ x.depth ∧ x.depth ≤ 1000) (hby : -1000 ≤ by_ ∧ by_ ≤ 1000) (hn : x.attrs.length ≤ 1048576) (a4 : Option Addr) (n c4 : Nat) (hc4 : w.cell? ⟨b, o + 4, none⟩ = some (.slice a4 n c4)) (hnil : a4 = none → c4 = 0) (hat : AtsAt w a4 n c4 x.attrs) (h : ItAt w b o x) :
    Calls Tryz.prog 191 #[.pointer (some ⟨b, o, none⟩), .int .i64 by_] w (ItOwn w ⟨x.depth + by_, x.text, x.space, x.name, x.attrs⟩) := by
  obtain ⟨i0, hi, hz0, hz1, hz2⟩ := info_parts attrInfo
  have d0 := h.c0
  have d1 := h.c1
  have d2 := h.c2
  have d3 := h.c3
  have d4 := hc4
  have hlt := h.lt
  obtain ⟨d, s, t, u, l⟩ := x
  dsimp only at hd hn d0 d1 d2 d3 hat ⊢
  have HAT := Lib.hid hat
  have hn' : n ≤ 1048576 := by have := hat.len; omega
  have HL := Lib.hid hat.len
  clear h hat hc4
  have hb1 : b < w.heap.size + 1 := by omega
  have hb2 : b < w.heap.size + 1 + 1 := by omega
  cases a4 with
  | none =>
    obtain rfl : n = 0 := by
      rcases HAT.out.row with e | ⟨b5, o5, e5, _⟩
      · exact e
      · cases e5
    obtain rfl : c4 = 0 := hnil rfl
    obtain rfl : l = [] := List.length_eq_zero_iff.1 HL.out
    clear hnil
    go_enter Tryz.func191, Tryz.ntmps191
    go_wp2
    exact bodyPost_ret (v := .agg #[.int .i64 (d + by_), .string s, .string t, .string u, .slice (some ⟨w.heap.size + 1 + 1, 0, none⟩) 0 0]) (by simp [results, Tryz.results191, go_sem]) rfl
      ⟨_, _, _, rfl, ⟨⟨rfl, by omega, (fun i => by simp [dAt]), .inl rfl⟩, .inl rfl⟩, (fun e => by cases e), below3 _ _ _ _⟩
  | some ad =>
    go_enter Tryz.func191, Tryz.ntmps191
    go_wp2_with (at_builtin; refine wpList_append_own_at _ rfl _ _ 62 rfl w.heap.size 65 i0 _ 2 32 Tryz.underlying62 hi hz0 hz1 hz2 rfl (by decide) _ 0 [] rfl ?c0 ad n c4 (flatA l) rfl ?c6 ?c1 ?c2 ?c3 ?c4 ?c5 ?_)
    case c0 => exact lit_behind2 w _ _
    case c6 => rw [flatA_length, HL.out]
    case c1 => exact (HAT.out.below (below3 _ _ _ _)).flat
    case c2 => exact flatA_one l
    case c3 => unfold maxLen; omega
    case c4 => omega
    case c5 => simp; omega
    intro v' w1 hown hgrow hnn hblk
    obtain ⟨a', c', rfl⟩ := owns_slice hown
    have HBLK := Lib.hid hblk
    have HNN := Lib.hid hnn
    clear hblk hnn
    have HOWN := Lib.hid hown
    have hon := Only.grown hgrow
    have HON := Lib.hid hon
    have p00 : w1.cell? ⟨w.heap.size, 0, none⟩ = some (.int .i64 0) := (hon.cell (p := ⟨w.heap.size, 0, none⟩) (by simp; omega) (by simp [Value.ownBlock]; omega)).trans (by go_simp)
    have p10 : w1.cell? ⟨w.heap.size + 1, 0, none⟩ = some (.int .i64 (d + by_)) := (hon.cell (p := ⟨w.heap.size + 1, 0, none⟩) (by simp) (by simp [Value.ownBlock])).trans (by go_simp)
    have f00 : w1.frozen? ⟨w.heap.size, 0, none⟩ = false := (hon.frozen (p := ⟨w.heap.size, 0, none⟩) (by simp; omega) (by simp [Value.ownBlock]; omega)).trans (by go_simp)
    have p01 : w1.cell? ⟨w.heap.size, 1, none⟩ = some (.string { data := #[] }) := (hon.cell (p := ⟨w.heap.size, 1, none⟩) (by simp; omega) (by simp [Value.ownBlock]; omega)).trans (by go_simp)
    have p11 : w1.cell? ⟨w.heap.size + 1, 1, none⟩ = some (.string s) := (hon.cell (p := ⟨w.heap.size + 1, 1, none⟩) (by simp) (by simp [Value.ownBlock])).trans (by go_simp)
    have f01 : w1.frozen? ⟨w.heap.size, 1, none⟩ = false := (hon.frozen (p := ⟨w.heap.size, 1, none⟩) (by simp; omega) (by simp [Value.ownBlock]; omega)).trans (by go_simp)
    have p02 : w1.cell? ⟨w.heap.size, 2, none⟩ = some (.string { data := #[] }) := (hon.cell (p := ⟨w.heap.size, 2, none⟩) (by simp; omega) (by simp [Value.ownBlock]; omega)).trans (by go_simp)
    have p12 : w1.cell? ⟨w.heap.size + 1, 2, none⟩ = some (.string t) := (hon.cell (p := ⟨w.heap.size + 1, 2, none⟩) (by simp) (by simp [Value.ownBlock])).trans (by go_simp)
    have f02 : w1.frozen? ⟨w.heap.size, 2, none⟩ = false := (hon.frozen (p := ⟨w.heap.size, 2, none⟩) (by simp; omega) (by simp [Value.ownBlock]; omega)).trans (by go_simp)
    have p03 : w1.cell? ⟨w.heap.size, 3, none⟩ = some (.string { data := #[] }) := (hon.cell (p := ⟨w.heap.size, 3, none⟩) (by simp; omega) (by simp [Value.ownBlock]; omega)).trans (by go_simp)
    have p13 : w1.cell? ⟨w.heap.size + 1, 3, none⟩ = some (.string u) := (hon.cell (p := ⟨w.heap.size + 1, 3, none⟩) (by simp) (by simp [Value.ownBlock])).trans (by go_simp)
    have f03 : w1.frozen? ⟨w.heap.size, 3, none⟩ = false := (hon.frozen (p := ⟨w.heap.size, 3, none⟩) (by simp; omega) (by simp [Value.ownBlock]; omega)).trans (by go_simp)
    have p04 : w1.cell? ⟨w.heap.size, 4, none⟩ = some (.slice none 0 0) := (hon.cell (p := ⟨w.heap.size, 4, none⟩) (by simp; omega) (by simp [Value.ownBlock]; omega)).trans (by go_simp)
    have p14 : w1.cell? ⟨w.heap.size + 1, 4, none⟩ = some (.slice (some ad) n c4) := (hon.cell (p := ⟨w.heap.size + 1, 4, none⟩) (by simp) (by simp [Value.ownBlock])).trans (by go_simp)
    have f04 : w1.frozen? ⟨w.heap.size, 4, none⟩ = false := (hon.frozen (p := ⟨w.heap.size, 4, none⟩) (by simp; omega) (by simp [Value.ownBlock]; omega)).trans (by go_simp)
    have f14 : w1.frozen? ⟨w.heap.size + 1, 4, none⟩ = false := (hon.frozen (p := ⟨w.heap.size + 1, 4, none⟩) (by simp) (by simp [Value.ownBlock])).trans (by go_simp)
    clear hown hgrow hon
    go_wp2
    refine bodyPost_ret (v := .agg #[.int .i64 (d + by_), .string s, .string t, .string u, .slice a' n c']) (by simp [results, Tryz.results191, go_sem, p00, p01, p02, p03, p04]) rfl ⟨_, _, _, rfl, ?_, ?_, ?_⟩
    · have hz : w.heap.size + 2 < w1.heap.size := by have := HON.out.size; simp at this; omega
      have h0 : OwnAts w1 w.heap.size w1.heap.size a' n c' l := ownAts_of HOWN.out (by omega) HAT.out.size
      have hap : ∀ y, a' = some y → n ≠ 0 → ¬ (y.block = w.heap.size ∨ y.block = w.heap.size + 1) := fun y hy hne hq => by
        subst hy
        have := HBLK.out
        simp [Value.ownBlock] at this
        omega
      have st : ∀ (W : World) (p : Addr) (v : Value), (p.block = w.heap.size ∨ p.block = w.heap.size + 1) → OwnAts W w.heap.size w1.heap.size a' n c' l → OwnAts (W.setCell p v) w.heap.size w1.heap.size a' n c' l := fun W p v hp h =>
        h.only (Only.set (P := fun i => i = w.heap.size ∨ i = w.heap.size + 1) W p v hp) hap
      have := st _ ⟨w.heap.size, 4, none⟩ (.slice a' n c') (.inl rfl) (st _ ⟨w.heap.size, 3, none⟩ (.string u) (.inl rfl) (st _ ⟨w.heap.size, 2, none⟩ (.string t) (.inl rfl) (st _ ⟨w.heap.size, 1, none⟩ (.string s) (.inl rfl) (st _ ⟨w.heap.size, 0, none⟩ (.int .i64 (d + by_)) (.inl rfl) (st _ ⟨w.heap.size + 1, 4, none⟩ (.slice a' n c') (.inr rfl) h0)))))
      simpa using this
    · intro e
      subst e
      have := HBLK.out
      simp [Value.ownBlock] at this
    · have hb : Below w.heap.size w w1 := (below3 _ _ _ _).trans ⟨HON.out.os, HON.out.tape, HON.out.output, HON.out.size, fun i hi => HON.out.block i (by simp; omega) (by simp [Value.ownBlock]; omega)⟩
      exact (((((hb.setCell (by simp) _).setCell (by simp) _).setCell (by simp) _).setCell (by simp) _).setCell (by simp) _).setCell (by simp) _
def ItsOwnS (w : World) (l : List It) (e : Ending) (w' : World) : Prop := ∃ x n c, e = .returned (.slice (some x) n c) ∧ OwnIts w' w.heap.size w'.heap.size (some x) n c l ∧ Below w.heap.size w w'
theorem owns_some {w : World} {base : Nat} {e : TypeId} {size n c : Nat} {a : Option Addr} {xs : List Value} (h : w.ownsRow base e size (.slice a n c) n xs) (hn : n ≠ 0) : ∃ x, a = some x := by
  rcases h.2 with ⟨_, h0⟩ | ⟨g, cap, cur, hv, _⟩
  · exact absurd h0 hn
  · simp only [Value.slice.injEq] at hv
    exact ⟨_, hv.1⟩
theorem cellI_five {l : List It} {A : Nat → Option Addr} {N C : Nat → Nat} (i q : Nat) (hq : q < 5) :
    cellI l A N C (i * 5 + q) = if q = 0 then .int .i64 (l.getD i dIt).depth else if q = 1 then .string (l.getD i dIt).text else if q = 2 then .string (l.getD i dIt).space else if q = 3 then .string (l.getD i dIt).name else .slice (A i) (N i) (C i) := by
  unfold cellI
  rw [show (i * 5 + q) % 5 = q by omega, show (i * 5 + q) / 5 = i by omega]
theorem OwnIts.flat {w : World} {lo hi b n c : Nat} {l : List It} (h : OwnIts w lo hi (some ⟨b, 0, none⟩) n c l) (hn : n ≠ 0) :
    ∃ (A : Nat → Option Addr) (N C : Nat → Nat), (∀ j u, (flatI l A N C)[j]? = some u → w.cell? ((⟨b, 0, none⟩ : Addr).add j) = some u) ∧ (∀ i, i < n → OwnAts w lo hi (A i) (N i) (C i) (l.getD i dIt).attrs) := by
  obtain ⟨b', A, N, C, hb, _, _, _, hc, _, _⟩ := h.row.resolve_left hn
  simp only [Option.some.injEq, Addr.mk.injEq, and_true] at hb
  subst hb
  refine ⟨A, N, C, fun j u hj => ?_, fun i hi => (hc i hi).2⟩
  have hlt : j < l.length * 5 := by
    rcases Nat.lt_or_ge j (l.length * 5) with h1 | h1
    · exact h1
    · rw [List.getElem?_eq_none (by rw [flatI_length]; exact h1)] at hj; cases hj
  have hl := h.len
  rw [flatI_get _ _ _ _ _ hlt] at hj
  have hu := Option.some.inj hj
  have h5 := (hc (j / 5) (by omega)).1
  have e : j = j / 5 * 5 + j % 5 := by omega
  have hq : j % 5 < 5 := by omega
  rw [e] at hu ⊢
  rw [cellI_five _ _ hq] at hu
  rw [Addr.add_lit, Nat.zero_add]
  generalize j % 5 = q at hu hq ⊢
  generalize j / 5 = i at hu h5 ⊢
  rcases q with _ | _ | _ | _ | _ | q
  · rw [← hu]; exact h5.c0
  · rw [← hu]; exact h5.c1
  · rw [← hu]; exact h5.c2
  · rw [← hu]; exact h5.c3
  · rw [← hu]; exact h5.c4
  · omega
def WideIt (x : It) : Prop := (-9223372036854775808 ≤ x.depth ∧ x.depth ≤ 9223372036854775807) ∧ (x.text.size ≤ 9223372036854775807 ∧ x.space.size ≤ 9223372036854775807 ∧ x.name.size ≤ 9223372036854775807)
def joinA {α : Type} (n : Nat) (F G : Nat → α) (i : Nat) : α := if i < n then F i else G (i - n)
theorem flatI_join (l l2 : List It) (A A2 : Nat → Option Addr) (N N2 C C2 : Nat → Nat) : flatI (l ++ l2) (joinA l.length A A2) (joinA l.length N N2) (joinA l.length C C2) = flatI l A N C ++ flatI l2 A2 N2 C2 := by
  apply List.ext_getElem?
  intro j
  by_cases h1 : j < l.length * 5
  · have h2 : j / 5 < l.length := by omega
    rw [flatI_get _ _ _ _ _ (by rw [List.length_append]; omega), List.getElem?_append_left (by rw [flatI_length]; exact h1), flatI_get _ _ _ _ _ h1]
    have hl : (l ++ l2).getD (j / 5) dIt = l.getD (j / 5) dIt := by rw [List.getD_eq_getElem?_getD, List.getElem?_append_left h2, ← List.getD_eq_getElem?_getD]
    have g : ∀ {α : Type} (F G : Nat → α), joinA l.length F G (j / 5) = F (j / 5) := fun F G => by unfold joinA; rw [if_pos h2]
    unfold cellI
    rw [hl, g, g, g]
  · by_cases h3 : j < (l.length + l2.length) * 5
    · rw [flatI_get _ _ _ _ _ (by rw [List.length_append]; exact h3), List.getElem?_append_right (by rw [flatI_length]; omega), flatI_length, flatI_get _ _ _ _ _ (by omega)]
      have e5 : (j - l.length * 5) / 5 = j / 5 - l.length := by omega
      have e6 : (j - l.length * 5) % 5 = j % 5 := by omega
      have hl : (l ++ l2).getD (j / 5) dIt = l2.getD (j / 5 - l.length) dIt := by rw [List.getD_eq_getElem?_getD, List.getElem?_append_right (by omega), ← List.getD_eq_getElem?_getD]
      have g : ∀ {α : Type} (F G : Nat → α), joinA l.length F G (j / 5) = G (j / 5 - l.length) := fun F G => by unfold joinA; rw [if_neg (by omega)]
      unfold cellI
      rw [hl, g, g, g, e5, e6]
    · rw [List.getElem?_eq_none (by rw [flatI_length, List.length_append]; omega), List.getElem?_eq_none (by rw [List.length_append, flatI_length, flatI_length]; omega)]
theorem GrowIts.join {w w0 w1 : World} {B : Nat} {v v' : Value} {n k : Nat} {l l2 : List It} {A A2 : Nat → Option Addr} {N C N2 C2 : Nat → Nat}
    (h : GrowIts w B v n l A N C) (hw : Below w.heap.size w w0) (hk : l2.length = k) (hA : ∀ i, i < k → OwnAts w0 w.heap.size w0.heap.size (A2 i) (N2 i) (C2 i) (l2.getD i dIt).attrs ∧ (A2 i = none → C2 i = 0))
    (hE : ∀ i j, i < k → j < k → i ≠ j → ∀ x y, A2 i = some x → A2 j = some y → N2 i ≠ 0 → N2 j ≠ 0 → x.block ≠ y.block) (hB : B ≤ w.heap.size)
    (hr : w1.ownsRow B 67 5 v' (n + k) (flatI l A N C ++ flatI l2 A2 N2 C2)) (hg : w0.grownBy w1 v.ownBlock) (hv : v'.ownBlock = v.ownBlock ∨ ∃ g, v'.ownBlock = some g ∧ w0.heap.size ≤ g) :
    GrowIts w1 B v' (n + k) (l ++ l2) (joinA l.length A A2) (joinA l.length N N2) (joinA l.length C C2) := by
  have hon := Only.grown hg
  have hs0 := hw.size
  have hs1 := hg.size
  have hvlt : ∀ g, v.ownBlock = some g → g < w.heap.size := fun g hgb => (h.row.lt g hgb).2
  have hold : ∀ i, i < l.length → ∀ z, A i = some z → N i ≠ 0 → B ≤ z.block ∧ z.block < w.heap.size := fun i hi z hz hne => (h.ats i hi).1.in hz hne
  have hnew : ∀ i, i < k → ∀ z, A2 i = some z → N2 i ≠ 0 → w.heap.size ≤ z.block ∧ z.block < w0.heap.size := fun i hi z hz hne => (hA i hi).1.in hz hne
  have j1 : ∀ {α : Type} (F G : Nat → α) (i : Nat), i < l.length → joinA l.length F G i = F i := fun F G i hi => by unfold joinA; rw [if_pos hi]
  have j2 : ∀ {α : Type} (F G : Nat → α) (i : Nat), l.length ≤ i → joinA l.length F G i = G (i - l.length) := fun F G i hi => by unfold joinA; rw [if_neg (by omega)]
  have hlen : ∀ i, i < (l ++ l2).length → i < l.length ∨ (l.length ≤ i ∧ i - l.length < k) := fun i hi => by
    rw [List.length_append] at hi
    omega
  have hvn : ∀ z : Addr, w.heap.size ≤ z.block → z.block < w0.heap.size → v'.ownBlock ≠ some z.block := fun z h1 h2 hq => by
    rcases hv with hv | ⟨g, hv, hg2⟩
    · rw [hv] at hq
      have := hvlt _ hq
      omega
    · rw [hv] at hq
      simp only [Option.some.injEq] at hq
      omega
  refine ⟨by rw [flatI_join]; exact hr, fun i hi => ?_, fun i hi z hz hne => ?_, fun i j hi hj hij z z' hz hz' hn hn' => ?_⟩
  · rcases hlen i hi with h1 | ⟨h1, h2⟩
    · rw [j1 _ _ _ h1, j1 _ _ _ h1, j1 _ _ _ h1]
      have hl : (l ++ l2).getD i dIt = l.getD i dIt := by rw [List.getD_eq_getElem?_getD, List.getElem?_append_left h1, ← List.getD_eq_getElem?_getD]
      rw [hl]
      have h0 := (h.ats i h1).1.only (Only.below (P := fun _ => False) hw) fun _ _ _ h => h
      have h3 := h0.only hon fun z hz hne hq => h.apart i h1 z hz hne hq.symm
      exact ⟨⟨h3.ats, h3.own.imp id fun ⟨b, g1, g2, g3, g4⟩ => ⟨b, g1, g2, by omega, g4⟩⟩, (h.ats i h1).2⟩
    · rw [j2 _ _ _ h1, j2 _ _ _ h1, j2 _ _ _ h1]
      have hl : (l ++ l2).getD i dIt = l2.getD (i - l.length) dIt := by rw [List.getD_eq_getElem?_getD, List.getElem?_append_right h1, ← List.getD_eq_getElem?_getD]
      rw [hl]
      have h3 := (hA _ h2).1.only hon fun z hz hne hq => by
        have g1 := (hnew _ h2 z hz hne).1
        have g2 := hvlt z.block hq.symm
        omega
      exact ⟨⟨h3.ats, h3.own.imp id fun ⟨b, g1, g2, g3, g4⟩ => ⟨b, g1, by omega, by omega, g4⟩⟩, (hA _ h2).2⟩
  · rcases hlen i hi with h1 | ⟨h1, h2⟩
    · rw [j1 _ _ _ h1] at hz hne
      have g1 := hold i h1 z hz hne
      rcases hv with hv | ⟨g, hv, hg2⟩
      · rw [hv]
        exact h.apart i h1 z hz hne
      · rw [hv]
        intro hq
        simp only [Option.some.injEq] at hq
        omega
    · rw [j2 _ _ _ h1] at hz hne
      have g1 := hnew _ h2 z hz hne
      exact hvn z g1.1 g1.2
  · rcases hlen i hi with h1 | ⟨h1, h2⟩
    · rw [j1 _ _ _ h1] at hz hn
      have g1 := hold i h1 z hz hn
      rcases hlen j hj with h3 | ⟨h3, h4⟩
      · rw [j1 _ _ _ h3] at hz' hn'
        exact h.each i j h1 h3 hij z z' hz hz' hn hn'
      · rw [j2 _ _ _ h3] at hz' hn'
        have g2 := hnew _ h4 z' hz' hn'
        omega
    · rw [j2 _ _ _ h1] at hz hn
      have g1 := hnew _ h2 z hz hn
      rcases hlen j hj with h3 | ⟨h3, h4⟩
      · rw [j1 _ _ _ h3] at hz' hn'
        have g2 := hold j h3 z' hz' hn'
        omega
      · rw [j2 _ _ _ h3] at hz' hn'
        exact hE _ _ h2 h4 (by omega) z z' hz hz' hn hn'
theorem grow_root2 {w : World} {B n c : Nat} {a : Option Addr} (x : It) (hB : B ≤ w.heap.size) (h : OwnAts w B w.heap.size a n c x.attrs) (hnil : a = none → c = 0) :
    GrowIts (w.alloc (.cells #[.int .i64 x.depth, .string x.text, .string x.space, .string x.name, .slice a n c] 67)) B (.slice (some ⟨w.heap.size, 0, none⟩) 1 1) 1 [x] (fun _ => a) (fun _ => n) (fun _ => c) := by
  have hl := World.ownsRow_lit (base := B) (e := 67) (size := 5) w #[.int .i64 x.depth, .string x.text, .string x.space, .string x.name, .slice a n c] 1 hB (by decide) (by simp)
  have hown := h.only (Only.below (P := fun _ => False) (below1 w (.cells #[.int .i64 x.depth, .string x.text, .string x.space, .string x.name, .slice a n c] 67))) fun _ _ _ h => h
  have ef : flatI [x] (fun _ => a) (fun _ => n) (fun _ => c) = (#[.int .i64 x.depth, .string x.text, .string x.space, .string x.name, .slice a n c] : Array Value).toList := by
    show List.map (cellI [x] (fun _ => a) (fun _ => n) (fun _ => c)) (List.range 5) = _
    rw [show List.range 5 = [0, 1, 2, 3, 4] from by decide]
    simp [cellI]
  refine ⟨by rw [ef]; exact hl, fun i hi => ?_, fun i hi y hy hne => ?_, fun i j hi hj hij => ?_⟩
  · have h0 : i = 0 := by simpa using hi
    subst h0
    exact ⟨⟨hown.ats, hown.own.imp id fun ⟨b, h1, h2, h3, h4⟩ => ⟨b, h1, h2, by simp; omega, h4⟩⟩, hnil⟩
  · have g1 := hown.in hy hne
    simp only [Value.ownBlock]
    intro e
    simp only [Option.some.injEq] at e
    omega
  · simp at hi hj
    omega
theorem lit_ats1 (w : World) (B : Nat) (hB : B ≤ w.heap.size) (nm v : ByteArray) (h1 : nm.size ≤ 9223372036854775807) (h2 : v.size ≤ 9223372036854775807) :
    OwnAts (w.alloc (.cells #[.string nm, .string v] 65)) B (w.alloc (.cells #[.string nm, .string v] 65)).heap.size (some ⟨w.heap.size, 0, none⟩) 1 1 [⟨nm, v⟩] := by
  have hl := World.ownsRow_lit (base := B) (e := 65) (size := 2) w #[.string nm, .string v] 1 hB (by decide) (by simp)
  have ef : flatA [⟨nm, v⟩] = (#[.string nm, .string v] : Array Value).toList := by
    show List.map _ (List.range 2) = _
    rw [show List.range 2 = [0, 1] from by decide]
    simp
  rw [← ef] at hl
  refine ownAts_of hl (by decide) fun i => ?_
  match i with
  | 0 => exact ⟨h1, h2⟩
  | i + 1 => exact ⟨by show (0 : Nat) ≤ _; omega, by show (0 : Nat) ≤ _; omega⟩
theorem OwnAts.later {w w' : World} {lo hi hi' : Nat} {a : Option Addr} {n c : Nat} {l : List At} (h : OwnAts w lo hi a n c l) (hb : Below w.heap.size w w') (hh : hi ≤ hi') : OwnAts w' lo hi' a n c l := by
  have h1 := h.only (Only.below (P := fun _ => False) hb) fun _ _ _ h => h
  exact ⟨h1.ats, h1.own.imp id fun ⟨b, g1, g2, g3, g4⟩ => ⟨b, g1, g2, by omega, g4⟩⟩
def one2 {α : Type} (a z : α) (i : Nat) : α := if i = 0 then a else z
theorem flatI_two (x y : It) (a : Option Addr) (m c : Nat) : flatI [x, y] (one2 a none) (one2 m 0) (one2 c 0) = [.int .i64 x.depth, .string x.text, .string x.space, .string x.name, .slice a m c, .int .i64 y.depth, .string y.text, .string y.space, .string y.name, .slice none 0 0] := by
  show List.map (cellI [x, y] _ _ _) (List.range 10) = _
  rw [show List.range 10 = [0, 1, 2, 3, 4, 5, 6, 7, 8, 9] from by decide]
  simp [cellI, one2]
theorem GrowIts.two1 {w w0 w1 : World} {B : Nat} {v v' : Value} {n : Nat} {l : List It} {A : Nat → Option Addr} {N C : Nat → Nat} {x y : It} {a : Option Addr} {m c : Nat}
    (h : GrowIts w B v n l A N C) (hw : Below w.heap.size w w0) (ha : OwnAts w0 w.heap.size w0.heap.size a m c x.attrs) (hnil : a = none → c = 0) (hy : y.attrs = []) (hB : B ≤ w.heap.size)
    (hr : w1.ownsRow B 67 5 v' (n + 2) (flatI l A N C ++ [.int .i64 x.depth, .string x.text, .string x.space, .string x.name, .slice a m c, .int .i64 y.depth, .string y.text, .string y.space, .string y.name, .slice none 0 0])) (hg : w0.grownBy w1 v.ownBlock)
    (hv : v'.ownBlock = v.ownBlock ∨ ∃ g, v'.ownBlock = some g ∧ w0.heap.size ≤ g) :
    ∃ (A' : Nat → Option Addr) (N' C' : Nat → Nat), GrowIts w1 B v' (n + 2) (l ++ [x, y]) A' N' C' := by
  refine ⟨_, _, _, h.join (l2 := [x, y]) (A2 := one2 a none) (N2 := one2 m 0) (C2 := one2 c 0) hw rfl (fun i hi => ?_) (fun i j hi hj hij p q hp hq hn hn' => ?_) hB (by rw [flatI_two]; exact hr) hg hv⟩
  · match i, hi with
    | 0, _ => exact ⟨ha, hnil⟩
    | 1, _ =>
      show OwnAts w0 w.heap.size w0.heap.size none 0 0 y.attrs ∧ _
      rw [hy]
      exact ⟨bareAts _ _ _, fun _ => rfl⟩
  · match i, j, hi, hj with
    | 0, 0, _, _ => exact absurd rfl hij
    | 0, 1, _, _ => cases hq
    | 1, _, _, _ => cases hp
theorem vint {k : IntKind} {a b : Int} (h : a = b) : Value.int k a = .int k b := by rw [h]
structure Src (w : World) (b : Nat) (a : Option Addr) (n c : Nat) (xs : List Int) (k : Nat) : Prop where
  lt : b < w.heap.size
  c0 : w.cell? ⟨b, 0, none⟩ = some (.slice a n c)
  c1 : w.cell? ⟨b, 1, none⟩ = some (.int .i64 k)
  f1 : w.frozen? ⟨b, 1, none⟩ = false
  len : xs.length = n
  row : n = 0 ∨ ∃ rb ro, a = some ⟨rb, ro, none⟩ ∧ rb < b ∧ ∀ i, i < n → w.cell? ⟨rb, ro + i, none⟩ = some (.int .u8 (xs.getD i 0))
  byte : ∀ i, 0 ≤ xs.getD i 0 ∧ xs.getD i 0 ≤ 255
  size : n ≤ 1048576
  far : k ≤ 1000000
def NextRes (w : World) (b : Nat) (a : Option Addr) (n c : Nat) (xs : List Int) (k : Nat) (m : Int) (en : Ending) (w' : World) : Prop :=
  ∃ r : Nat, en = .returned (.int .i64 r) ∧ (1 ≤ m → (r : Int) < m) ∧ Src w' b a n c xs (k + 1) ∧ w.grownBy w' (some b)
theorem grown_setC (W : World) (B o : Nat) (u : Value) (n : Nat) : W.grownBy ((W.setCell ⟨B, o, none⟩ u).drewN n) (some B) :=
  ⟨rfl, rfl, rfl, by simp [World.setCell], fun k _ hk => Below.heap_setCell _ _ _ k (fun e => hk (by rw [e]))⟩
theorem Src.step {w : World} {b : Nat} {a : Option Addr} {n c : Nat} {xs : List Int} {k : Nat} (h : Src w b a n c xs k) (hk : k < 1000000) (d : Nat) : Src ((w.setCell ⟨b, 1, none⟩ (.int .i64 ((k : Int) + 1))).drewN d) b a n c xs (k + 1) := by
  refine ⟨by simpa [World.setCell] using h.lt, ?_, ?_, ?_, h.len, ?_, h.byte, h.size, by omega⟩
  · show (w.setCell _ _).cell? _ = _
    rw [World.cell?_setCell_other _ _ _ _ (by simp)]
    exact h.c0
  · show (w.setCell _ _).cell? _ = _
    rw [World.cell?_setCell_same' _ _ _ (by rw [h.c1]; rfl)]
    rfl
  · show (w.setCell _ _).frozen? _ = _
    rw [World.frozen?_setCell]
    exact h.f1
  · rcases h.row with e | ⟨rb, ro, ha, hrb, hc⟩
    · exact .inl e
    · refine .inr ⟨rb, ro, ha, hrb, fun i hi => ?_⟩
      show (w.setCell _ _).cell? _ = _
      rw [World.cell?_setCell_other _ _ _ _ (by first | (simp; done) | (intro e; simp at e; omega))]
      exact hc i hi
theorem next_close {w : World} {b : Nat} {a : Option Addr} {n c : Nat} {xs : List Int} {k : Nat} {m : Int} (h : Src w b a n c xs k) (hk : k < 1000000) (d : Nat) (r : Int) (h0 : 0 ≤ r) (h1 : 1 ≤ m → r < m) :
    NextRes w b a n c xs k m (.returned (.int .i64 r)) ((w.setCell ⟨b, 1, none⟩ (.int .i64 ((k : Int) + 1))).drewN d) := by
  obtain ⟨j, rfl⟩ := Int.eq_ofNat_of_zero_le h0
  exact ⟨j, rfl, h1, h.step hk d, grown_setC _ _ _ _ _⟩
theorem wrap64_id {x : Int} (h0 : -9223372036854775808 ≤ x) (h1 : x ≤ 9223372036854775807) : wrap64 x = x := by
  unfold wrap64
  omega
theorem div_bounds (k n : Nat) (hk : k < 1000000) : 0 ≤ (k : Int) / (n : Int) ∧ (k : Int) / (n : Int) ≤ 1000000 := by
  have h : (k : Int) / (n : Int) = ((k / n : Nat) : Int) := (Int.natCast_ediv k n).symm
  have h2 := Nat.div_le_self k n
  rw [h]
  generalize k / n = q at h2 ⊢
  omega
theorem draw1 {x : Int} {k n : Nat} (hk : k < 1000000) (hx : 0 ≤ x ∧ x ≤ 255) : ∃ v, wrap64 (x + wrap64 (wrap64 ((k : Int) / (n : Int)) * 37)) = v ∧ 0 ≤ v ∧ v ≤ 37000255 := by
  have hd := div_bounds k n hk
  generalize (k : Int) / (n : Int) = q at hd
  rw [wrap64_id (x := q) (by omega) (by omega), wrap64_id (x := q * 37) (by omega) (by omega), wrap64_id (by omega) (by omega)]
  exact ⟨_, rfl, by omega, by omega⟩
set_option maxRecDepth 100000 in
set_option maxHeartbeats 1600000 in
theorem l1Next_any (b : Nat) (a : Option Addr) (n c : Nat) (xs : List Int) (k : Nat) (m : Int) (hm0 : 1 ≤ m) (hm : m ≤ 1000000000) (hk : k < 1000000) (w : World) (h : Src w b a n c xs k) :
    Calls Tryz.prog 58 #[.pointer (some ⟨b, 0, none⟩), .int .i64 m] w (NextRes w b a n c xs k m) := by
  have HS := Lib.hid h
  have h1 := h.c1
  have h2 := h.f1
  have h0 := h.c0
  have h3 := h.size
  by_cases hn : n = 0
  · have hn0 : ((n : Int) == 0) = true := by rw [beq_iff_eq]; omega
    clear h h3 hn
    go_enter Tryz.func58, Tryz.ntmps58
    go_wp2
    go_ret
    exact next_close HS.out hk 0 _ (Int.emod_nonneg _ (by omega)) (fun _ => Int.emod_lt_of_pos _ (by omega))
  · rcases h.row with e | ⟨rb, ro, rfl, hrb, hcell⟩
    · exact absurd e hn
    · have hn0 : ((n : Int) == 0) = false := by rw [beq_eq_false_iff_ne]; omega
      have hi := hcell (k % n) (Nat.mod_lt _ (by omega))
      have hby := h.byte (k % n)
      have hi1 := hcell ((k + 1) % n) (Nat.mod_lt _ (by omega))
      have hby1 := h.byte ((k + 1) % n)
      have hi2 := hcell ((k + 2) % n) (Nat.mod_lt _ (by omega))
      have hby2 := h.byte ((k + 2) % n)
      generalize xs.getD (k % n) 0 = x at hi hby
      generalize xs.getD ((k + 1) % n) 0 = x1 at hi1 hby1
      generalize xs.getD ((k + 2) % n) 0 = x2 at hi2 hby2
      have hlt : ((k % n : Nat) : Int) < (n : Int) := by have := Nat.mod_lt k (show 0 < n by omega); omega
      have hlt1 : (((k + 1) % n : Nat) : Int) < (n : Int) := by have := Nat.mod_lt (k + 1) (show 0 < n by omega); omega
      have hlt2 : (((k + 2) % n : Nat) : Int) < (n : Int) := by have := Nat.mod_lt (k + 2) (show 0 < n by omega); omega
      obtain ⟨v, hv, v0, v1⟩ := draw1 (n := n) hk hby
      have HV := Lib.hid hv
      have hne : ¬ rb = b := by omega
      clear h hcell hv
      have w1 : IntKind.i64.wrap ((k : Int) + 1) = (k : Int) + 1 := by rw [IntKind.wrap_i64]; omega
      have w2 : IntKind.i64.wrap ((k : Int) + 2) = (k : Int) + 2 := by rw [IntKind.wrap_i64]; omega
      have p1 : (0 : Int) ≤ (k : Int) + 1 := by omega
      have p2 : (0 : Int) ≤ (k : Int) + 2 := by omega
      have t1 : ((k : Int) + 1).tmod (n : Int) = (((k + 1) % n : Nat) : Int) := by rw [Int.tmod_eq_emod_of_nonneg p1]; rfl
      have t2 : ((k : Int) + 2).tmod (n : Int) = (((k + 2) % n : Nat) : Int) := by rw [Int.tmod_eq_emod_of_nonneg p2]; rfl
      have W1 := Lib.hid w1
      have W2 := Lib.hid w2
      have T1 := Lib.hid t1
      have T2 := Lib.hid t2
      generalize (k + 1) % n = j1 at hi1 hlt1 T1
      generalize (k + 2) % n = j2 at hi2 hlt2 T2
      clear w1 w2 t1 t2
      by_cases m1 : m ≤ 200
      · go_enter Tryz.func58, Tryz.ntmps58
        go_wp2
        go_quiet (fail)
        rw [HV.out]
        go_wp2
        go_ret
        exact next_close HS.out hk _ _ (Int.emod_nonneg _ (by omega)) (fun _ => Int.emod_lt_of_pos _ (by omega))
      · by_cases m2 : m ≤ 60000
        · go_enter Tryz.func58, Tryz.ntmps58
          go_wp2
          go_quiet (fail)
          rw [HV.out]
          go_wp2
          have w1 := W1.out
          have t1 := T1.out
          go_quiet (fail)
          clear w1 t1
          go_wp2
          go_ret
          exact next_close HS.out hk _ _ (Int.emod_nonneg _ (by omega)) (fun _ => Int.emod_lt_of_pos _ (by omega))
        · go_enter Tryz.func58, Tryz.ntmps58
          go_wp2
          go_quiet (fail)
          rw [HV.out]
          go_wp2
          have w1 := W1.out
          have t1 := T1.out
          go_quiet (fail)
          clear w1 t1
          have u0 : 0 ≤ v * 251 + x1 * 13 + (k : Int) := by omega
          have u1 : v * 251 + x1 * 13 + (k : Int) ≤ 10000000000 := by omega
          go_wp2
          have w2 := W2.out
          have t2 := T2.out
          go_quiet (fail)
          clear w2 t2
          go_wp2
          go_ret
          exact next_close HS.out hk _ _ (Int.emod_nonneg _ (by omega)) (fun _ => Int.emod_lt_of_pos _ (by omega))
theorem Src.grown {w w' : World} {b : Nat} {a : Option Addr} {n c : Nat} {xs : List Int} {k : Nat} (h : Src w b a n c xs k) {row : Option Nat} (hg : w.grownBy w' row) (hr : ∀ j, row = some j → b < j) : Src w' b a n c xs k := by
  have hb : w'.heap[b]? = w.heap[b]? := hg.block b h.lt (fun e => by have := hr b e.symm; omega)
  refine ⟨Nat.lt_of_lt_of_le h.lt hg.size, (World.cell?_of_block (w := w) hb).trans h.c0, (World.cell?_of_block (w := w) hb).trans h.c1, (World.frozen?_of_block (w := w) hb).trans h.f1, h.len, ?_, h.byte, h.size, h.far⟩
  rcases h.row with e | ⟨rb, ro, ha, hrb, hc⟩
  · exact .inl e
  · refine .inr ⟨rb, ro, ha, hrb, fun i hi => ?_⟩
    have hb2 : w'.heap[rb]? = w.heap[rb]? := hg.block rb (Nat.lt_trans hrb h.lt) (fun e => by have := hr rb e.symm; omega)
    exact (World.cell?_of_block (w := w) hb2).trans (hc i hi)
theorem grown_of_below {w w' : World} (h : Below w.heap.size w w') (row : Option Nat) : w.grownBy w' row := ⟨h.os, h.tape, h.output, h.size, fun i hi _ => h.block i hi⟩
theorem Src.below {w w' : World} {b : Nat} {a : Option Addr} {n c : Nat} {xs : List Int} {k : Nat} (h : Src w b a n c xs k) (hb : Below w.heap.size w w') : Src w' b a n c xs k := h.grown (grown_of_below hb none) (fun _ e => by cases e)
theorem Src.alloc {w : World} {b : Nat} {a : Option Addr} {n c : Nat} {xs : List Int} {k : Nat} (h : Src w b a n c xs k) (o : Obj) : Src (w.alloc o) b a n c xs k := h.below (below1 w o)
theorem Row.grown {w w' : World} {k : IntKind} {v : Value} {xs : List Int} {row : Option Nat} (h : Row w k v xs) (hg : w.grownBy w' row) (hne : ∀ j, row = some j → v.ownBlock ≠ some j) : Row w' k v xs := by
  rcases h with h | ⟨b, o, cap, rfl, h1, h2, h3, h4⟩
  · exact .inl h
  · refine .inr ⟨b, o, cap, rfl, h1, h2, Nat.lt_of_lt_of_le h3 hg.size, fun i hi => ?_⟩
    have hb : w'.heap[b]? = w.heap[b]? := hg.block b h3 (fun e => hne b e.symm rfl)
    exact (World.cell?_of_block (w := w) hb).trans (h4 i hi)
def PickRes (w : World) (b : Nat) (a : Option Addr) (n c : Nat) (xs : List Int) (k : Nat) (L : List Int) (en : Ending) (w' : World) : Prop :=
  ∃ r : Int, en = .returned (.int .i64 r) ∧ r ∈ L ∧ Src w' b a n c xs (k + 1) ∧ w.grownBy w' (some b)
set_option maxHeartbeats 800000 in
theorem l1Pick_any (b : Nat) (a : Option Addr) (n c : Nat) (xs : List Int) (k : Nat) (lb m : Nat) (L : List Int) (hm : m = L.length) (hm0 : 1 ≤ m) (hm1 : m ≤ 1000) (hk : k < 1000000) (w : World) (h : Src w b a n c xs k)
    (hL : Row w .i64 (.slice (some ⟨lb, 0, none⟩) m m) L) (hne : lb ≠ b) :
    Calls Tryz.prog 110 #[.pointer (some ⟨b, 0, none⟩), .slice (some ⟨lb, 0, none⟩) m m] w (PickRes w b a n c xs k L) := by
  have hmi : (1 : Int) ≤ (m : Int) := by omega
  have K := Lib.hid (l1Next_any b a n c xs k m hmi (by omega) hk w h)
  have HL := Lib.hid hL
  have HM := Lib.hid hm
  clear hm h hL
  go_enter Tryz.func110, Tryz.ntmps110
  go_wp2_with fail
  refine K.out.mono ?_
  rintro e w1 ⟨r, rfl, hr, hs, hg⟩
  have hr1 := hr hmi
  have HR := Lib.hid (HL.out.grown hg (fun j e => by cases e; simp [Value.ownBlock]; exact hne))
  have HS := Lib.hid hs
  have HG := Lib.hid hg
  clear hr hs hg
  rcases HR.out with ⟨hv, _⟩ | ⟨rb, ro, cap, hv, h1, h2, h3, h4⟩
  · simp at hv
  · simp only [Value.slice.injEq, Option.some.injEq, Addr.mk.injEq, and_true] at hv
    obtain ⟨⟨rfl, rfl⟩, _, _⟩ := hv
    have hc := h4 r (by have := HM.out; omega)
    rw [Nat.zero_add] at hc
    have hmem : L.getD r 0 ∈ L := by
      have hlt : r < L.length := by have := HM.out; omega
      rw [List.getD_eq_getElem?_getD, List.getElem?_eq_getElem hlt]
      exact List.getElem_mem hlt
    have HMEM := Lib.hid hmem
    clear hmem h4 h1
    generalize L.getD r 0 = z at hc HMEM
    go_wp2
    go_ret
    exact ⟨z, rfl, HMEM.out, HS.out, HG.out⟩
theorem lit_row (w : World) (e : TypeId) (k : IntKind) (L : List Int) (m : Nat) (hm : m = L.length) (hx : m ≤ maxLen) : Row (w.alloc (.cells (L.map (Value.int k)).toArray e)) k (.slice (some ⟨w.heap.size, 0, none⟩) m m) L :=
  Row.of_owns (lit_owns w e k L m hm hx)
theorem l1Source_any (a : Option Addr) (n c : Nat) (xs : List Int) (w : World) (hl : xs.length = n) (hs : n ≤ 1048576) (hby : ∀ i, 0 ≤ xs.getD i 0 ∧ xs.getD i 0 ≤ 255)
    (hrow : n = 0 ∨ ∃ rb ro, a = some ⟨rb, ro, none⟩ ∧ rb < w.heap.size ∧ ∀ i, i < n → w.cell? ⟨rb, ro + i, none⟩ = some (.int .u8 (xs.getD i 0))) :
    Calls Tryz.prog 51 #[.slice a n c] w fun en w' => en = .returned (.pointer (some ⟨w.heap.size, 0, none⟩)) ∧ Src w' w.heap.size a n c xs 0 ∧ Below w.heap.size w w' := by
  have HR := Lib.hid hrow
  have HB := Lib.hid hby
  clear hrow hby
  go_enter Tryz.func51, Tryz.ntmps51
  go_wp2
  go_ret
  refine ⟨rfl, ⟨by simp, by simp, by simp, by simp, hl, ?_, HB.out, hs, by omega⟩, below1 _ _⟩
  rcases HR.out with e | ⟨rb, ro, ha, hrb, hc⟩
  · exact .inl e
  · exact .inr ⟨rb, ro, ha, hrb, fun i hi => ((below1 w _).cell (p := ⟨rb, ro + i, none⟩) hrb).trans (hc i hi)⟩
theorem l1Chance_any (b : Nat) (a : Option Addr) (n c : Nat) (xs : List Int) (k : Nat) (m : Int) (hm0 : 1 ≤ m) (hm : m ≤ 1000000000) (hk : k < 1000000) (w : World) (h : Src w b a n c xs k) :
    Calls Tryz.prog 96 #[.pointer (some ⟨b, 0, none⟩), .int .i64 m] w fun en w' => (∃ t : Bool, en = .returned (.bool t)) ∧ Src w' b a n c xs (k + 1) ∧ w.grownBy w' (some b) := by
  have K := Lib.hid (l1Next_any b a n c xs k m hm0 hm hk w h)
  clear h
  go_enter Tryz.func96, Tryz.ntmps96
  go_wp2_with fail
  refine K.out.mono ?_
  rintro e w1 ⟨r, rfl, hr, hs, hg⟩
  have HS := Lib.hid hs
  have HG := Lib.hid hg
  clear hs hg hr
  go_wp2
  go_ret
  exact ⟨⟨_, rfl⟩, HS.out, HG.out⟩
structure CodeAt (w : World) (a : Option Addr) (n c : Nat) (xs : List Int) : Prop where
  len : xs.length = n
  size : n ≤ 1048576
  byte : ∀ i, 0 ≤ xs.getD i 0 ∧ xs.getD i 0 ≤ 255
  row : n = 0 ∨ ∃ rb ro, a = some ⟨rb, ro, none⟩ ∧ rb < w.heap.size ∧ ∀ i, i < n → w.cell? ⟨rb, ro + i, none⟩ = some (.int .u8 (xs.getD i 0))
theorem CodeAt.below {w w' : World} {a : Option Addr} {n c : Nat} {xs : List Int} (h : CodeAt w a n c xs) (hb : Below w.heap.size w w') : CodeAt w' a n c xs := by
  refine ⟨h.len, h.size, h.byte, ?_⟩
  rcases h.row with e | ⟨rb, ro, ha, hr, hc⟩
  · exact .inl e
  · exact .inr ⟨rb, ro, ha, Nat.lt_of_lt_of_le hr hb.size, fun i hi => (hb.cell (p := ⟨rb, ro + i, none⟩) hr).trans (hc i hi)⟩
theorem source_any {w : World} {a : Option Addr} {n c : Nat} {xs : List Int} (h : CodeAt w a n c xs) :
    Calls Tryz.prog 51 #[.slice a n c] w fun en w' => en = .returned (.pointer (some ⟨w.heap.size, 0, none⟩)) ∧ Src w' w.heap.size a n c xs 0 ∧ Below w.heap.size w w' :=
  l1Source_any a n c xs w h.len h.size h.byte h.row
theorem below_step {w w1 w2 : World} {b : Nat} (h : Below w.heap.size w w1) (hg : w1.grownBy w2 (some b)) (hb : w.heap.size ≤ b) : Below w.heap.size w w2 := h.grown hg h.size (fun k e => by cases e; exact hb)
def TopInt (w : World) (en : Ending) (w' : World) : Prop := ∃ r : Int, en = .returned (.int .i64 r) ∧ Below w.heap.size w w'
def TopText (w : World) (m : Nat) (en : Ending) (w' : World) : Prop := ∃ s : ByteArray, en = .returned (.string s) ∧ s.size ≤ m ∧ Below w.heap.size w w'
def isWord (m : Nat) : Option Value → Bool
  | some (.string s) => decide (s.size ≤ m)
  | _ => false
theorem word_of {m : Nat} {o : Option Value} (h : isWord m o = true) : ∃ s : ByteArray, o = some (.string s) ∧ s.size ≤ m := by
  unfold isWord at h
  split at h
  · rename_i s
    exact ⟨s, rfl, of_decide_eq_true h⟩
  · cases h
theorem words_of {w w1 : World} {arr : Array Value} {e : TypeId} (hb : Below (w.alloc (.cells arr e)).heap.size (w.alloc (.cells arr e)) w1) (m k : Nat) (hall : (List.range k).all (fun r => isWord m arr[r]?) = true) :
    ∀ r, r < k → ∃ s : ByteArray, w1.cell? ⟨w.heap.size, r, none⟩ = some (.string s) ∧ s.size ≤ m := by
  intro r hr
  obtain ⟨s, hs, hm⟩ := word_of (List.all_eq_true.1 hall r (List.mem_range.2 hr))
  refine ⟨s, ?_, hm⟩
  rw [hb.cell (p := ⟨w.heap.size, r, none⟩) (by simp), cell_of_row _ _ _ _ _ (0, 0) (heap_alloc_new w _)]
  exact hs
def inB (v l h : Int) : Bool := decide (l ≤ v ∧ v ≤ h)
set_option maxHeartbeats 400000 in
theorem l1In_any (v l h : Int) (w : World) :
    Calls Tryz.prog 70 #[.int .i64 v, .int .i64 l, .int .i64 h] w fun e w' => e = .returned (.bool (inB v l h)) ∧ w' = w := by
  by_cases h1 : l ≤ v
  · by_cases h2 : v ≤ h
    · go_enter Tryz.func70, Tryz.ntmps70
      go_wp2
      go_ret
      exact ⟨ret_bool (by simp [inB, h1, h2]), rfl⟩
    · go_enter Tryz.func70, Tryz.ntmps70
      go_wp2
      go_ret
      exact ⟨ret_bool (by simp [inB, h1, h2]), rfl⟩
  · go_enter Tryz.func70, Tryz.ntmps70
    go_wp2
    go_ret
    exact ⟨ret_bool (by simp [inB]; omega), rfl⟩
def spansAt (w : World) (b : Nat) (l : List (Int × Int)) : Prop := ∀ i (h : i < l.length), w.cell? ⟨b, 2 * i, none⟩ = some (.int .i64 (l[i]).1) ∧ w.cell? ⟨b, 2 * i + 1, none⟩ = some (.int .i64 (l[i]).2)
theorem isIn_any' (v : Int) (l : List (Int × Int)) (b : Nat) (w : World) (hl : l.length ≤ 10) (hb : b < w.heap.size) (hs : spansAt w b l) :
    Calls Tryz.prog 201 #[.int .i64 v, .slice (some ⟨b, 0, none⟩) l.length l.length] w fun e w' => e = .returned (.bool (l.any fun p => inB v p.1 p.2)) ∧ Below w.heap.size w w' := by
  go_enter Tryz.func201, Tryz.ntmps201
  go_wp2
  go_loopw [9] (fun i wr => ∃ k : Nat, k ≤ l.length ∧ i = .int .i64 k ∧ (l.take k).any (fun p => inB v p.1 p.2) = false ∧ Below w.heap.size w wr) (fun i _ => l.length - (intOf i).toNat)
  case atStart => exact ⟨0, Nat.zero_le _, rfl, by simp, Below.refl _ _⟩
  case round =>
    obtain ⟨k, hk, rfl, hno, hbl⟩ := hrel
    by_cases hlt : k < l.length
    · obtain ⟨c0, c1⟩ := hs k hlt
      have d0 : wr.cell? ⟨b, k * 2, none⟩ = some (.int .i64 (l[k]).1) := by rw [hbl.cell (by exact hb), Nat.mul_comm]; exact c0
      have d1 : wr.cell? ⟨b, k * 2 + 1, none⟩ = some (.int .i64 (l[k]).2) := by rw [hbl.cell (by exact hb), Nat.mul_comm]; exact c1
      clear c0 c1
      have hsn : (l.take (k + 1)).any (fun p => inB v p.1 p.2) = inB v (l[k]).1 (l[k]).2 := by rw [List.take_succ_eq_append_getElem hlt, List.any_append, hno]; simp only [List.any_cons, List.any_nil, Bool.or_false, Bool.false_or]
      have HS := Lib.hid hsn
      have HNO := Lib.hid hno
      clear hsn hno
      by_cases h1 : (l[k]).1 ≤ v
      · by_cases h2 : v ≤ (l[k]).2
        · go_wp2
          go_ret
          refine ⟨ret_bool (List.any_eq_true.2 ⟨l[k], List.getElem_mem hlt, by simp [inB, h1, h2]⟩).symm, ?_⟩
          exact hbl.trans (((Below.refl _ _).alloc (Nat.le_refl _) _).mono hbl.size)
        · go_wp2
          go_roundw
          case rel => exact ⟨k + 1, by omega, by go_num, by rw [HS.out]; simp [inB]; omega, hbl.trans (((Below.refl _ _).alloc (Nat.le_refl _) _).mono hbl.size)⟩
          case measure => simp [intOf]; omega
      · go_wp2
        go_roundw
        case rel => exact ⟨k + 1, by omega, by go_num, by rw [HS.out]; simp [inB]; omega, hbl.trans (((Below.refl _ _).alloc (Nat.le_refl _) _).mono hbl.size)⟩
        case measure => simp [intOf]; omega
    · obtain rfl : k = l.length := by omega
      have HNO := Lib.hid hno
      clear hno
      go_wp2
      go_ret
      have := HNO.out
      rw [List.take_length] at this
      exact ⟨ret_bool this.symm, hbl⟩
theorem isIn_any (v : Int) (l : List (Int × Int)) (b n : Nat) (w : World) (hn : n = l.length) (hl : n ≤ 10) (hb : b < w.heap.size) (hs : spansAt w b l) :
    Calls Tryz.prog 201 #[.int .i64 v, .slice (some ⟨b, 0, none⟩) n n] w fun e w' => e = .returned (.bool (l.any fun p => inB v p.1 p.2)) ∧ Below w.heap.size w w' := by
  subst hn
  exact isIn_any' v l b w hl hb hs
end Go.Proofs.YtcaknhoaoodbfaaGreatDoor
