/- A code and items of one's own are handed back. -/
import Derived.Test.YtjkmgpomcnplnaaGreatDoorGS0
import Derived.Test.YtjkmgpomcnplnaaGreatDoorGS14
import Derived.Test.YtjkmgpomcnplnaaGreatDoorGS15
import Derived.Test.YtjkmgpomcnplnaaGreatDoorGS16
import Derived.Test.YtjkmgpomcnplnaaGreatDoorGS2
import Derived.Test.YtjkmgpomcnplnaaGreatDoorGS8
import Derived.Test.YtjkmgpomcnplnaaGreatDoorGS1
import Derived.Test.YtjkmgpomcnplnaaGreatDoorGS13
import Derived.Test.YtjkmgpomcnplnaaGreatDoorGS12
namespace Go.Proofs.YtjkmgpomcnplnaaGreatDoor
open Go.ChangeShapes Go.WideShapes Go.ChangeAt Go.RowKit
set_option linter.unusedVariables false
def TreeOwn (w : World) (cd : Int) (l : List It) (e : Ending) (w' : World) : Prop := ∃ a n c, e = .returned (.agg #[.int .i64 cd, .slice a n c]) ∧ OwnIts w' w.heap.size w'.heap.size a n c l ∧ Below w.heap.size w w'
structure GoodPr (p : Pr) : Prop where
  kind : 0 ≤ p.kind ∧ p.kind ≤ 6
  shown : 0 ≤ p.shown ∧ p.shown ≤ 4
  prio : -128 ≤ p.prio ∧ p.prio ≤ 127
  few : p.more.length ≤ 20
  each : ∀ i, i < p.more.length → itemCode (p.more.getD i dIt) = 0
structure MildPr (p : Pr) : Prop where
  kind : 0 ≤ p.kind ∧ p.kind ≤ 6
  shown : 0 ≤ p.shown ∧ p.shown ≤ 4
  prio : -128 ≤ p.prio ∧ p.prio ≤ 127
  few : p.more.length ≤ 20
  depth : ∀ i, i < p.more.length → 0 ≤ (p.more.getD i dIt).depth ∧ (p.more.getD i dIt).depth ≤ 6
theorem GoodPr.mild {p : Pr} (h : GoodPr p) : MildPr p := ⟨h.kind, h.shown, h.prio, h.few, fun i hi => item_depth (h.each i hi)⟩
theorem goodPr {p : Pr} (h : presCode p = 0) : GoodPr p := by
  unfold presCode at h
  split at h
  · omega
  · rename_i h1
    split at h
    · rename_i h2; exact absurd h h2
    · split at h
      · omega
      · rw [Bool.not_eq_false, Bool.and_eq_true, Bool.and_eq_true] at h1
        obtain ⟨⟨k1, k2⟩, k3⟩ := h1
        have hf : p.more.length ≤ 20 := by
          unfold moreCode at h
          split at h
          · omega
          · omega
        refine ⟨by simpa [inB] using k1, by simpa [inB] using k2, by simpa [inB] using k3, hf, fun i hi => ?_⟩
        unfold moreCode at h
        rw [if_neg (by omega)] at h
        cases hg : p.more.find? (fun x => moreAt x != 0) with
        | some y =>
          rw [hg] at h
          have := List.find?_some hg
          rw [bne_iff_ne] at this
          exact absurd h this
        | none =>
          rw [List.find?_eq_none] at hg
          have hm := hg (p.more.getD i dIt) (by rw [List.getD_eq_getElem?_getD, List.getElem?_eq_getElem hi]; exact List.getElem_mem hi)
          have h0 : moreAt (p.more.getD i dIt) = 0 := by simpa using hm
          unfold moreAt at h0
          split at h0
          · rename_i h5; exact absurd h0 h5
          · rename_i h5; exact Decidable.not_not.1 h5
theorem ats_lit3 (W : World) (s0 t0 s1 t1 s2 t2 : ByteArray) (h : s0.size ≤ 9223372036854775807 ∧ t0.size ≤ 9223372036854775807 ∧ s1.size ≤ 9223372036854775807 ∧ t1.size ≤ 9223372036854775807 ∧ s2.size ≤ 9223372036854775807 ∧ t2.size ≤ 9223372036854775807) :
    AtsAt (W.alloc (.cells #[.string s0, .string t0, .string s1, .string t1, .string s2, .string t2] 52)) (some ⟨W.heap.size, 0, none⟩) 3 3 [⟨s0, t0⟩, ⟨s1, t1⟩, ⟨s2, t2⟩] := by
  refine ⟨rfl, by omega, fun i => ?_, .inr ⟨W.heap.size, 0, rfl, by simp, fun i hi => ?_⟩⟩
  · match i with
    | 0 => exact ⟨h.1, h.2.1⟩
    | 1 => exact ⟨h.2.2.1, h.2.2.2.1⟩
    | 2 => exact ⟨h.2.2.2.2.1, h.2.2.2.2.2⟩
    | i + 3 => simp [dAt]
  · match i, hi with
    | 0, _ => exact ⟨by simp, by simp⟩
    | 1, _ => exact ⟨by simp, by simp⟩
    | 2, _ => exact ⟨by simp, by simp⟩
theorem grow_root {w : World} {B n c : Nat} {a : Option Addr} {l : List At} (x : It) (hx : x.attrs = l) (hB : B ≤ w.heap.size) (h : w.ownsRow B 52 2 (.slice a n c) n (flatA l)) (hn : n ≤ 100)
    (hs : ∀ i, (l.getD i dAt).name.size ≤ 9223372036854775807 ∧ (l.getD i dAt).value.size ≤ 9223372036854775807) :
    GrowIts (w.alloc (.cells #[.int .i64 x.depth, .string x.text, .string x.space, .string x.name, .slice a n c] 54)) B (.slice (some ⟨w.heap.size, 0, none⟩) 1 1) 1 [x] (fun _ => a) (fun _ => n) (fun _ => c) := by
  have hl := World.ownsRow_lit (base := B) (e := 54) (size := 5) w #[.int .i64 x.depth, .string x.text, .string x.space, .string x.name, .slice a n c] 1 hB (by decide) (by simp)
  have hown := (ownAts_of h (by omega) hs).only (Only.below (P := fun _ => False) (below1 w (.cells #[.int .i64 x.depth, .string x.text, .string x.space, .string x.name, .slice a n c] 54))) fun _ _ _ h => h
  have ef : flatI [x] (fun _ => a) (fun _ => n) (fun _ => c) = (#[.int .i64 x.depth, .string x.text, .string x.space, .string x.name, .slice a n c] : Array Value).toList := by
    show List.map (cellI [x] (fun _ => a) (fun _ => n) (fun _ => c)) (List.range 5) = _
    rw [show List.range 5 = [0, 1, 2, 3, 4] from by decide]
    simp [cellI]
  refine ⟨by rw [ef]; exact hl, fun i hi => ?_, fun i hi y hy hne => ?_, fun i j hi hj hij => ?_⟩
  · have h0 : i = 0 := by simpa using hi
    subst h0
    have e : ([x].getD 0 dIt).attrs = l := hx
    rw [e]
    refine ⟨⟨hown.ats, hown.own.imp id fun ⟨b, h1, h2, h3, h4⟩ => ⟨b, h1, h2, by simp; omega, h4⟩⟩, fun e => ?_⟩
    subst e
    rcases h.2 with ⟨hv, _⟩ | ⟨g, cap, cur, hv, _⟩
    · simp only [Value.slice.injEq] at hv
      exact hv.2.2
    · cases hv
  · have g1 := hown.in hy hne
    simp only [Value.ownBlock]
    intro e
    simp only [Option.some.injEq] at e
    omega
  · simp at hi hj
    omega
theorem below_al {w W : World} (h : Below w.heap.size w W) (x : Obj) : Below w.heap.size w (W.alloc x) := h.alloc h.size x
theorem wide_part {nm t : ByteArray} (h1 : nm.size ≤ 9223372036854775807) (h2 : t.size ≤ 9223372036854775807) : ∀ x ∈ partL nm t, WideIt x := by
  intro x hx
  unfold partL at hx
  split at hx
  · cases hx
  · simp only [List.mem_cons, List.not_mem_nil, or_false] at hx
    rcases hx with rfl | rfl
    · exact ⟨⟨by show -9223372036854775808 ≤ (1 : Int); omega, by show (1 : Int) ≤ _; omega⟩, by show (⟨#[]⟩ : ByteArray).size ≤ 9223372036854775807; decide, by show csT.size ≤ 9223372036854775807; decide, h1⟩
    · exact ⟨⟨by show -9223372036854775808 ≤ (2 : Int); omega, by show (2 : Int) ≤ _; omega⟩, h2, by show (⟨#[]⟩ : ByteArray).size ≤ 9223372036854775807; decide, by show (⟨#[]⟩ : ByteArray).size ≤ 9223372036854775807; decide⟩
theorem wide_headM {p : Pr} (h : MildPr p) (hs : p.status.size ≤ 9223372036854775807) : ∀ x ∈ headL p, WideIt x := by
  have hw : (showW p.shown).size ≤ 9223372036854775807 := by
    have : ∀ j, (showWs.getD j ByteArray.empty).size ≤ 20 := by
      intro j
      match j with
      | 0 => decide
      | 1 => decide
      | 2 => decide
      | 3 => decide
      | 4 => decide
      | j + 5 =>
        rw [List.getD_eq_getElem?_getD, List.getElem?_eq_none (by show 5 ≤ j + 5; omega)]
        decide
    have := this p.shown.toNat
    unfold showW
    omega
  have hp : (prioT p.prio).size ≤ 9223372036854775807 := by
    unfold prioT
    split
    · decide
    · have hs := digT_size19 (n := p.prio.natAbs) (by have := h.prio; omega)
      unfold numT
      split
      · rw [ByteArray.size_append]
        have : (⟨#[45]⟩ : ByteArray).size = 1 := rfl
        omega
      · omega
  intro x hx
  unfold headL at hx
  rw [List.mem_append, List.mem_append, List.mem_append] at hx
  rcases hx with ((hx | hx) | hx) | hx
  · rw [List.mem_singleton] at hx
    subst hx
    exact ⟨⟨by show -9223372036854775808 ≤ (0 : Int); omega, by show (0 : Int) ≤ _; omega⟩, by show (⟨#[]⟩ : ByteArray).size ≤ 9223372036854775807; decide, by show csT.size ≤ 9223372036854775807; decide, by show prT.size ≤ 9223372036854775807; decide⟩
  · exact wide_part (by decide) hw x hx
  · exact wide_part (by decide) hs x hx
  · exact wide_part (by decide) hp x hx
theorem wide_head {p : Pr} (h : GoodPr p) (hs : p.status.size ≤ 9223372036854775807) : ∀ x ∈ headL p, WideIt x := wide_headM h.mild hs
theorem wide_tree {HL pm : List It} {n : Nat} (h1 : ∀ x ∈ HL, WideIt x) (h2 : ∀ i, i < n → 0 ≤ (pm.getD i dIt).depth ∧ (pm.getD i dIt).depth ≤ 6) (h3 : ∀ i, i < n → SmallIt (pm.getD i dIt)) :
    ∀ i, i < HL.length + n → WideIt ((HL ++ movedTo pm 0 n 1).getD i dIt) := by
  intro i hi
  by_cases h : i < HL.length
  · rw [List.getD_eq_getElem?_getD, List.getElem?_append_left h, List.getElem?_eq_getElem h]
    exact h1 _ (List.getElem_mem h)
  · have e : (HL ++ movedTo pm 0 n 1).getD i dIt = (movedTo pm 0 n 1).getD (i - HL.length) dIt := by
      rw [List.getD_eq_getElem?_getD, List.getElem?_append_right (by omega), ← List.getD_eq_getElem?_getD]
    rw [e, movedTo_get _ _ _ _ _ (by omega)]
    have a := h2 (0 + (i - HL.length)) (by omega)
    have b := (h3 (0 + (i - HL.length)) (by omega)).1
    exact ⟨⟨by show _ ≤ (pm.getD (0 + (i - HL.length)) dIt).depth + 1; omega, by show (pm.getD (0 + (i - HL.length)) dIt).depth + 1 ≤ _; omega⟩, by show (pm.getD (0 + (i - HL.length)) dIt).text.size ≤ _; omega, by show (pm.getD (0 + (i - HL.length)) dIt).space.size ≤ _; omega, by show (pm.getD (0 + (i - HL.length)) dIt).name.size ≤ _; omega⟩
theorem grown_on {B : Nat} {W0 W w' : World} {v : Value} {n : Nat} {l : List It} {A : Nat → Option Addr} {N C : Nat → Nat} (h0 : Below B W0 W) (hB : B ≤ W0.heap.size) (h : GrowIts W B v n l A N C) (hg : W.grownBy w' v.ownBlock) : Below B W0 w' :=
  h0.grown hg (Nat.le_trans hB h0.size) (fun j hj => (h.row.lt j hj).1)
def treeT (p : Pr) : List It := if presCode p = 0 then treeL p else []
theorem attrs3_small {p : Pr} (h1 : p.sender.size ≤ 9223372036854775807) (h2 : p.goal.size ≤ 9223372036854775807) (i : Nat) : ((attrs3 p).getD i dAt).name.size ≤ 9223372036854775807 ∧ ((attrs3 p).getD i dAt).value.size ≤ 9223372036854775807 := by
  have hk : (kindW p.kind).size ≤ 9223372036854775807 := by
    have : ∀ j, (kindWs.getD j ByteArray.empty).size ≤ 20 := by
      intro j
      match j with
      | 0 => decide
      | 1 => decide
      | 2 => decide
      | 3 => decide
      | 4 => decide
      | 5 => decide
      | 6 => decide
      | j + 7 =>
        rw [List.getD_eq_getElem?_getD, List.getElem?_eq_none (by show 7 ≤ j + 7; omega)]
        decide
    have := this p.kind.toNat
    unfold kindW
    omega
  have key : ∀ x ∈ attrs3 p, x.name.size ≤ 9223372036854775807 ∧ x.value.size ≤ 9223372036854775807 := by
    intro x hx
    rw [← filled_three] at hx
    have hm := (List.mem_filter.1 hx).1
    simp only [List.mem_cons, List.not_mem_nil, or_false] at hm
    rcases hm with rfl | rfl | rfl
    · exact ⟨by show fromT.size ≤ _; decide, h1⟩
    · exact ⟨by show toT.size ≤ _; decide, h2⟩
    · exact ⟨by show typeT.size ≤ _; decide, hk⟩
  rcases Nat.lt_or_ge i (attrs3 p).length with h | h
  · rw [List.getD_eq_getElem?_getD, List.getElem?_eq_getElem h]
    exact key _ (List.getElem_mem h)
  · rw [List.getD_eq_getElem?_getD, List.getElem?_eq_none h]
    exact ⟨by decide, by decide⟩
theorem l7Kinds_any (w : World) : Calls Tryz.prog 49 #[] w fun e w' =>
    e = .returned (.slice (some ⟨w.heap.size, 0, none⟩) 7 7) ∧ w.heap.size < w'.heap.size ∧ Below w.heap.size w w' ∧ w'.cell? ⟨w.heap.size, 0, none⟩ = some (.string ⟨#[]⟩) ∧ w'.cell? ⟨w.heap.size, 1, none⟩ = some (.string ⟨#[117, 110, 97, 118, 97, 105, 108, 97, 98, 108, 101]⟩) ∧ w'.cell? ⟨w.heap.size, 2, none⟩ = some (.string ⟨#[115, 117, 98, 115, 99, 114, 105, 98, 101]⟩) ∧ w'.cell? ⟨w.heap.size, 3, none⟩ = some (.string ⟨#[115, 117, 98, 115, 99, 114, 105, 98, 101, 100]⟩) ∧ w'.cell? ⟨w.heap.size, 4, none⟩ = some (.string ⟨#[117, 110, 115, 117, 98, 115, 99, 114, 105, 98, 101]⟩) ∧ w'.cell? ⟨w.heap.size, 5, none⟩ = some (.string ⟨#[117, 110, 115, 117, 98, 115, 99, 114, 105, 98, 101, 100]⟩) ∧ w'.cell? ⟨w.heap.size, 6, none⟩ = some (.string ⟨#[112, 114, 111, 98, 101]⟩) := by
  go_enter Tryz.func49, Tryz.ntmps49
  go_wp2
  go_ret
  refine ⟨rfl, by simp, below1 _ _, ?_, ?_, ?_, ?_, ?_, ?_, ?_⟩ <;> simp
theorem l7Shows_any (w : World) : Calls Tryz.prog 51 #[] w fun e w' =>
    e = .returned (.slice (some ⟨w.heap.size, 0, none⟩) 5 5) ∧ w.heap.size < w'.heap.size ∧ Below w.heap.size w w' ∧ w'.cell? ⟨w.heap.size, 0, none⟩ = some (.string ⟨#[]⟩) ∧ w'.cell? ⟨w.heap.size, 1, none⟩ = some (.string ⟨#[97, 119, 97, 121]⟩) ∧ w'.cell? ⟨w.heap.size, 2, none⟩ = some (.string ⟨#[99, 104, 97, 116]⟩) ∧ w'.cell? ⟨w.heap.size, 3, none⟩ = some (.string ⟨#[100, 110, 100]⟩) ∧ w'.cell? ⟨w.heap.size, 4, none⟩ = some (.string ⟨#[120, 97]⟩) := by
  go_enter Tryz.func51, Tryz.ntmps51
  go_wp2
  go_ret
  refine ⟨rfl, by simp, below1 _ _, ?_, ?_, ?_, ?_, ?_⟩ <;> simp
theorem l7Kinds_row (w : World) : Calls Tryz.prog 49 #[] w fun e w' => e = .returned (.slice (some ⟨w.heap.size, 0, none⟩) 7 7) ∧ RowS w' (.slice (some ⟨w.heap.size, 0, none⟩) 7 7) kindWs ∧ Below w.heap.size w w' :=
  (l7Kinds_any w).mono fun e w' ⟨he, hz, hb, c0, c1, c2, c3, c4, c5, c6⟩ => ⟨he, kinds_row hz c0 c1 c2 c3 c4 c5 c6, hb⟩
theorem l7Shows_row (w : World) : Calls Tryz.prog 51 #[] w fun e w' => e = .returned (.slice (some ⟨w.heap.size, 0, none⟩) 5 5) ∧ RowS w' (.slice (some ⟨w.heap.size, 0, none⟩) 5 5) showWs ∧ Below w.heap.size w w' :=
  (l7Shows_any w).mono fun e w' ⟨he, hz, hb, c0, c1, c2, c3, c4⟩ => ⟨he, shows_row hz c0 c1 c2 c3 c4, hb⟩
set_option maxRecDepth 100000 in
set_option maxHeartbeats 3200000 in
theorem specPresenceFault_any (p : Pr) (a : Option Addr) (n c : Nat) (w : World) (hs : SmallPr p) (h : ItsAt w a n c p.more) :
    Calls Tryz.prog 26 #[.agg #[.int .i64 p.kind, .string p.sender, .string p.goal, .int .i64 p.shown, .string p.status, .int .i64 p.prio, .slice a n c]] w fun e w' => e = .returned (.int .i64 (presCode p)) ∧ Below w.heap.size w w' := by
  have KW := Lib.hid (fun b W (h : PrAt W b p a n c) => l7Texts_any b p a n c W hs.texts h)
  have KM := Lib.hid (fun W (hb : Below w.heap.size w W) => specMoreFault_any a n c p.more W hs.more (h.below hb))
  have HN := Lib.hid (fun o : Obj => PrAt.new w 26 p a n c)
  have I1 := Lib.hid (fun W => l1In_any p.kind 0 6 W)
  have I2 := Lib.hid (fun W => l1In_any p.shown 0 4 W)
  have I3 := Lib.hid (fun W => l1In_any p.prio (-128) 127 W)
  have HN := Lib.hid (PrAt.new w 26 p a n c)
  unfold presCode fits
  clear hs h
  obtain ⟨pk, pf, pt, ps, pu, pp, pm⟩ := p
  dsimp only at I1 I2 I3 HN KM ⊢
  generalize inB pk 0 6 = b1 at I1 ⊢
  generalize inB ps 0 4 = b2 at I2 ⊢
  generalize inB pp (-128) 127 = b3 at I3 ⊢
  generalize wordsCode ⟨pk, pf, pt, ps, pu, pp, pm⟩ = wc at KW ⊢
  generalize moreCode pm = mc at KM ⊢
  cases b1
  · rw [if_pos (by simp)]
    go_enter Tryz.func26, Tryz.ntmps26
    go_wp2_with fail
    refine (I1.out _).mono ?_
    rintro e w1 ⟨rfl, rfl⟩
    go_wp2
    go_ret
    exact ⟨rfl, below1 w _⟩
  cases b2
  · rw [if_pos (by simp)]
    go_enter Tryz.func26, Tryz.ntmps26
    go_wp2_with fail
    refine (I1.out _).mono ?_
    rintro e w1 ⟨rfl, rfl⟩
    go_wp2_with fail
    refine (I2.out _).mono ?_
    rintro e w1 ⟨rfl, rfl⟩
    go_wp2
    go_ret
    exact ⟨rfl, below1 w _⟩
  cases b3
  · rw [if_pos (by simp)]
    go_enter Tryz.func26, Tryz.ntmps26
    go_wp2_with fail
    refine (I1.out _).mono ?_
    rintro e w1 ⟨rfl, rfl⟩
    go_wp2_with fail
    refine (I2.out _).mono ?_
    rintro e w1 ⟨rfl, rfl⟩
    go_wp2_with fail
    refine (I3.out _).mono ?_
    rintro e w1 ⟨rfl, rfl⟩
    go_wp2
    go_ret
    exact ⟨rfl, below1 w _⟩
  rw [if_neg (by simp)]
  by_cases hw : wc = 0
  · subst hw
    rw [if_neg (by simp)]
    obtain ⟨k0, hk0⟩ : ∃ k0, (pk != 0) = k0 := ⟨_, rfl⟩
    obtain ⟨s0, hs0⟩ : ∃ s0, (ps != 0) = s0 := ⟨_, rfl⟩
    obtain ⟨p0, hp0⟩ : ∃ p0, (pp != 0) = p0 := ⟨_, rfl⟩
    obtain ⟨k1, hk1⟩ : ∃ k1, decide (1 < pk) = k1 := ⟨_, rfl⟩
    obtain ⟨st, hst⟩ : ∃ st, pu.toList.isEmpty = st := ⟨_, rfl⟩
    rw [hk0, hs0, hp0, hk1, hst]
    have key : ∀ k0 s0 p0 k1 st : Bool, (k0 = true ∧ s0 = true ∧ fitsB k0 s0 p0 k1 (!st) = false) ∨ (k0 = true ∧ s0 = false ∧ p0 = true ∧ fitsB k0 s0 p0 k1 (!st) = false) ∨
        (k0 = true ∧ s0 = false ∧ p0 = false ∧ k1 = true ∧ st = false ∧ fitsB k0 s0 p0 k1 (!st) = false) ∨ (k0 = true ∧ s0 = false ∧ p0 = false ∧ k1 = true ∧ st = true ∧ fitsB k0 s0 p0 k1 (!st) = true) ∨
        (k0 = true ∧ s0 = false ∧ p0 = false ∧ k1 = false ∧ fitsB k0 s0 p0 k1 (!st) = true) ∨
        (k0 = false ∧ k1 = true ∧ st = false ∧ fitsB k0 s0 p0 k1 (!st) = false) ∨ (k0 = false ∧ k1 = true ∧ st = true ∧ fitsB k0 s0 p0 k1 (!st) = true) ∨ (k0 = false ∧ k1 = false ∧ fitsB k0 s0 p0 k1 (!st) = true) := by
      intro k0 s0 p0 k1 st
      cases k0 <;> cases s0 <;> cases p0 <;> cases k1 <;> cases st <;> simp [fitsB]
    rcases key k0 s0 p0 k1 st with ⟨rfl, rfl, e⟩ | ⟨rfl, rfl, rfl, e⟩ | ⟨rfl, rfl, rfl, rfl, rfl, e⟩ | ⟨rfl, rfl, rfl, rfl, rfl, e⟩ | ⟨rfl, rfl, rfl, rfl, e⟩ | ⟨rfl, rfl, rfl, e⟩ | ⟨rfl, rfl, rfl, e⟩ | ⟨rfl, rfl, e⟩
    all_goals
      rw [e]
      clear key e
      go_enter Tryz.func26, Tryz.ntmps26
      go_wp2_with fail
      refine (I1.out _).mono ?_
      rintro e w1 ⟨rfl, rfl⟩
      go_wp2_with fail
      refine (I2.out _).mono ?_
      rintro e w1 ⟨rfl, rfl⟩
      go_wp2_with fail
      refine (I3.out _).mono ?_
      rintro e w1 ⟨rfl, rfl⟩
      go_wp2_with fail
      refine (KW.out _ _ HN.out).mono ?_
      rintro e w2 ⟨rfl, hb2⟩
      have PA := HN.out.below hb2
      have d0 := PA.c0
      have d3 := PA.c3
      have d4 := PA.c4
      have d5 := PA.c5
      have d6 := PA.c6
      have B2 := Lib.hid (below_then (below1 w _) hb2)
      clear PA hb2
      first
        | (go_wp2_with fail
           refine (KM.out _ B2.out).mono ?_
           rintro e w3 ⟨rfl, hb3⟩
           have B3 := Lib.hid (below_then B2.out hb3)
           clear hb3
           go_wp2
           go_ret
           exact ⟨rfl, B3.out⟩)
        | (go_wp2
           go_ret
           exact ⟨rfl, B2.out⟩)
        | fail
  · rw [if_pos hw]
    have q1 : (wc != 0) = true := by rw [bne_iff_ne]; exact hw
    have q2 : (wc == 0) = false := by rw [beq_eq_false_iff_ne]; exact hw
    clear hw
    go_enter Tryz.func26, Tryz.ntmps26
    go_wp2_with fail
    refine (I1.out _).mono ?_
    rintro e w1 ⟨rfl, rfl⟩
    go_wp2_with fail
    refine (I2.out _).mono ?_
    rintro e w1 ⟨rfl, rfl⟩
    go_wp2_with fail
    refine (I3.out _).mono ?_
    rintro e w1 ⟨rfl, rfl⟩
    go_wp2_with fail
    refine (KW.out _ _ HN.out).mono ?_
    rintro e w2 ⟨rfl, hb2⟩
    have B2 := Lib.hid (below_then (below1 w _) hb2)
    clear hb2
    go_wp2
    go_ret
    exact ⟨rfl, B2.out⟩
end Go.Proofs.YtjkmgpomcnplnaaGreatDoor
