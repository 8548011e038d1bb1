/- What the draw of a presence's own tree turns in it. -/
import Derived.Test.YtjkmgpomcnplnaaGreatDoorGS12
import Derived.Test.YtjkmgpomcnplnaaGreatDoorGS18
import Derived.Test.YtjkmgpomcnplnaaGreatDoorGS8
namespace Go.Proofs.YtjkmgpomcnplnaaGreatDoor
open Go.ChangeShapes Go.WideShapes Go.ChangeAt Go.RowKit
set_option linter.unusedVariables false
set_option linter.unusedSimpArgs false
theorem kindW_size (k : Int) : (kindW k).size ≤ 20 := by
  have : ∀ j, (kindWs.getD j ByteArray.empty).size ≤ 20 := by
    intro j
    match j with
    | 0 => decide
    | 1 => decide
    | 2 => decide
    | 3 => decide
    | 4 => decide
    | 5 => decide
    | 6 => decide
    | j + 7 =>
      rw [List.getD_eq_getElem?_getD, List.getElem?_eq_none (by show 7 ≤ j + 7; omega)]
      decide
  exact this k.toNat
theorem showW_size (k : Int) : (showW k).size ≤ 20 := by
  have : ∀ j, (showWs.getD j ByteArray.empty).size ≤ 20 := by
    intro j
    match j with
    | 0 => decide
    | 1 => decide
    | 2 => decide
    | 3 => decide
    | 4 => decide
    | j + 5 =>
      rw [List.getD_eq_getElem?_getD, List.getElem?_eq_none (by show 5 ≤ j + 5; omega)]
      decide
  exact this k.toNat
theorem attrs3_len (p : Pr) : (attrs3 p).length ≤ 3 := by have := filled_le [⟨fromT, p.sender⟩, ⟨toT, p.goal⟩, ⟨typeT, kindW p.kind⟩]; rw [filled_three] at this; exact this
theorem attrs3_200 {p : Pr} (h1 : p.sender.size ≤ 200) (h2 : p.goal.size ≤ 200) (i : Nat) : ((attrs3 p).getD i dAt).name.size ≤ 200 ∧ ((attrs3 p).getD i dAt).value.size ≤ 200 := by
  have key : ∀ x ∈ attrs3 p, x.name.size ≤ 200 ∧ x.value.size ≤ 200 := by
    intro x hx
    rw [← filled_three] at hx
    have hm := (List.mem_filter.1 hx).1
    simp only [List.mem_cons, List.not_mem_nil, or_false] at hm
    rcases hm with rfl | rfl | rfl
    · exact ⟨by show fromT.size ≤ _; decide, h1⟩
    · exact ⟨by show toT.size ≤ _; decide, h2⟩
    · exact ⟨by show typeT.size ≤ _; decide, by show (kindW p.kind).size ≤ 200; have := kindW_size p.kind; omega⟩
  rcases Nat.lt_or_ge i (attrs3 p).length with h | h
  · rw [List.getD_eq_getElem?_getD, List.getElem?_eq_getElem h]
    exact key _ (List.getElem_mem h)
  · rw [List.getD_eq_getElem?_getD, List.getElem?_eq_none h]
    exact ⟨by decide, by decide⟩
theorem mids_all {l : List It} (hl : l.length ≤ 60) (h : ∀ x ∈ l, Mid x) : Mids l := ⟨hl, fun i => by
  rw [List.getD_eq_getElem?_getD]
  by_cases hi : i < l.length
  · rw [List.getElem?_eq_getElem hi]
    exact h _ (List.getElem_mem hi)
  · rw [List.getElem?_eq_none (by omega)]
    exact dIt_mid⟩
theorem part_mid {nm t : ByteArray} (h1 : nm.size ≤ 200) (h2 : t.size ≤ 200) : ∀ x ∈ partL nm t, Mid x := by
  intro x hx
  unfold partL at hx
  split at hx
  · cases hx
  · simp only [List.mem_cons, List.not_mem_nil, or_false] at hx
    rcases hx with rfl | rfl
    · exact ⟨⟨by show -10 ≤ (1 : Int); omega, by show (1 : Int) ≤ 10; omega⟩, ⟨by show (⟨#[]⟩ : ByteArray).size ≤ 200; decide, by show csT.size ≤ 200; decide, h1⟩, by show (0 : Nat) ≤ 10; omega, fun i => by simp [dAt]⟩
    · exact ⟨⟨by show -10 ≤ (2 : Int); omega, by show (2 : Int) ≤ 10; omega⟩, ⟨h2, by show (⟨#[]⟩ : ByteArray).size ≤ 200; decide, by show (⟨#[]⟩ : ByteArray).size ≤ 200; decide⟩, by show (0 : Nat) ≤ 10; omega, fun i => by simp [dAt]⟩
theorem tree_mids {y : Pr} (hD : PrD y) (hT : Tame y) (hl : y.more.length ≤ 8) : Mids (treeL y) ∧ (treeL y).length ≤ 15 ∧ 1 ≤ (treeL y).length := by
  have hlen : (treeL y).length = (headL y).length + y.more.length := by unfold treeL; rw [List.length_append, movedTo_length]; omega
  have h7 := headL_len y
  have h1 := headL_pos y
  have hp : (prioT y.prio).size ≤ 200 := by
    unfold prioT
    split
    · decide
    · have hs := digT_size19 (n := y.prio.natAbs) (by have := hT.prio; omega)
      unfold numT
      split
      · rw [ByteArray.size_append]
        have : (⟨#[45]⟩ : ByteArray).size = 1 := rfl
        omega
      · omega
  refine ⟨mids_all (by omega) fun x hx => ?_, by omega, by omega⟩
  unfold treeL headL at hx
  rw [List.mem_append, List.mem_append, List.mem_append, List.mem_append] at hx
  rcases hx with (((hx | hx) | hx) | hx) | hx
  · rw [List.mem_singleton] at hx
    subst hx
    exact ⟨⟨by show -10 ≤ (0 : Int); omega, by show (0 : Int) ≤ 10; omega⟩, ⟨by show (⟨#[]⟩ : ByteArray).size ≤ 200; decide, by show csT.size ≤ 200; decide, by show prT.size ≤ 200; decide⟩, by show (attrs3 y).length ≤ 10; have := attrs3_len y; omega, fun i => attrs3_200 (by have := hD.sender; omega) (by have := hD.goal; omega) i⟩
  · exact part_mid (by decide) (by have := showW_size y.shown; omega) x hx
  · exact part_mid (by decide) (by have := hD.status; omega) x hx
  · exact part_mid (by decide) hp x hx
  · obtain ⟨i, hi, rfl⟩ := List.mem_iff_getElem.1 hx
    have hi2 : i < y.more.length := by rw [movedTo_length] at hi; omega
    have e := movedTo_get y.more 0 y.more.length 1 i (by omega)
    rw [List.getD_eq_getElem?_getD, List.getElem?_eq_getElem hi] at e
    rw [show (movedTo y.more 0 y.more.length 1)[i] = _ from e]
    have hd := hD.more (0 + i)
    have h1 := hd.depth
    have h2 := hd.sizes
    exact ⟨⟨by show -10 ≤ (y.more.getD (0 + i) dIt).depth + 1; omega, by show (y.more.getD (0 + i) dIt).depth + 1 ≤ 10; omega⟩, ⟨by show (y.more.getD (0 + i) dIt).text.size ≤ 200; omega, by show (y.more.getD (0 + i) dIt).space.size ≤ 200; omega, by show (y.more.getD (0 + i) dIt).name.size ≤ 200; omega⟩, by show (y.more.getD (0 + i) dIt).attrs.length ≤ 10; have := hd.few; omega, fun j => by
      show ((y.more.getD (0 + i) dIt).attrs.getD j dAt).name.size ≤ 200 ∧ ((y.more.getD (0 + i) dIt).attrs.getD j dAt).value.size ≤ 200
      have := hd.short j
      omega⟩
theorem tree_root (y : Pr) : ((treeL y).getD 0 dIt).attrs.length ≤ 9 := by
  have e : (treeL y).getD 0 dIt = rootI y := by
    unfold treeL headL
    simp
  rw [e]
  show (attrs3 y).length ≤ 9
  have := attrs3_len y
  omega
theorem mids_leaf {l : List It} (h : Mids l) (d : Int) (sp nm t : ByteArray) (hd : 0 ≤ d ∧ d ≤ 6) (h1 : sp.size ≤ 200) (h2 : nm.size ≤ 200) (h3 : t.size ≤ 200) (hl : l.length + 2 ≤ 60) : Mids (l ++ leafL d sp nm t) := by
  have hb : (⟨#[]⟩ : ByteArray).size ≤ 200 := by decide
  have hb2 : (ByteArray.empty).size ≤ 200 := by decide
  refine mids_all ?_ fun x hx => ?_
  · rw [List.length_append]
    have : (leafL d sp nm t).length ≤ 2 := by unfold leafL; split <;> simp
    omega
  · rcases List.mem_append.1 hx with hx | hx
    · obtain ⟨i, hi, rfl⟩ := List.mem_iff_getElem.1 hx
      have := h.2 i
      rw [List.getD_eq_getElem?_getD, List.getElem?_eq_getElem hi] at this
      exact this
    · unfold leafL at hx
      split at hx
      · simp only [List.mem_cons, List.not_mem_nil, or_false] at hx
        subst hx
        exact ⟨⟨by show -10 ≤ d; omega, by show d ≤ 10; omega⟩, ⟨hb2, h1, h2⟩, by show (0 : Nat) ≤ 10; omega, fun i => by simp [dAt]⟩
      · simp only [List.mem_cons, List.not_mem_nil, or_false] at hx
        rcases hx with rfl | rfl
        · exact ⟨⟨by show -10 ≤ d; omega, by show d ≤ 10; omega⟩, ⟨hb2, h1, h2⟩, by show (0 : Nat) ≤ 10; omega, fun i => by simp [dAt]⟩
        · exact ⟨⟨by show -10 ≤ d + 1; omega, by show d + 1 ≤ 10; omega⟩, ⟨h3, hb2, hb2⟩, by show (0 : Nat) ≤ 10; omega, fun i => by simp [dAt]⟩
theorem tame_mild {y : Pr} (hD : PrD y) (hT : Tame y) (hl : y.more.length ≤ 8) : MildPr y := ⟨hT.kind, hT.shown, hT.prio, by omega, fun i _ => (hD.more i).depth⟩
theorem root_attrs {w w1 w2 : World} {B g m c : Nat} {l : List It} {A : Nat → Option Addr} {N C : Nat → Nat} (h : GrowIts w B (.slice (some ⟨g, 0, none⟩) m c) m l A N C) (hr : RootRow w B (.slice (some ⟨g, 0, none⟩) m c) l A N C) (hm : 0 < m)
    (hb1 : Below w.heap.size w w1) {row : Option Nat} (hg : w1.grownBy w2 row) (hrow : ∀ j, row = some j → (Value.slice (A 0) (N 0) (C 0)).ownBlock = some j)
    {a : Option Addr} {n cc : Nat} {es : List At} (hown : w2.ownsRow B 52 2 (.slice a n cc) n (flatA es)) (hne : ∀ j, (Value.slice a n cc).ownBlock = some j → j ≠ g) (hn : n ≤ 10) (hes : ∀ i, (es.getD i dAt).name.size ≤ 200 ∧ (es.getD i dAt).value.size ≤ 200)
    (hat : (Value.slice a n cc).ownBlock = (Value.slice (A 0) (N 0) (C 0)).ownBlock ∨ ∃ j, (Value.slice a n cc).ownBlock = some j ∧ w.heap.size ≤ j) :
    GrowIts (w2.setCell ⟨g, 4, none⟩ (.slice a n cc)) B (.slice (some ⟨g, 0, none⟩) m c) m (l.set 0 ⟨(l.getD 0 dIt).depth, (l.getD 0 dIt).text, (l.getD 0 dIt).space, (l.getD 0 dIt).name, es⟩) (putA 0 a A) (putA 0 n N) (putA 0 cc C) ∧ es.length = n := by
  have hlen := h.len
  have hgl := (h.row.lt g rfl).2
  have ho : Only (fun i => (Value.slice (A 0) (N 0) (C 0)).ownBlock = some i) w w2 := (Only.below hb1).trans ((Only.grown hg).mono fun i e => hrow i e.symm)
  have hats := ownAts_of hown (by omega) (fun i => by have := hes i; omega)
  have hel : es.length = n := hats.ats.len
  have hrow2 := owns_only h.row ho (fun q hq hp => by
    have : q = g := by simpa [Value.ownBlock] using hq.symm
    subst this
    exact hr.off q hp rfl)
  have hst := hrow2.stored (0 * 5 + 4) (.slice a n cc)
  rw [flatI_setA (y := ⟨(l.getD 0 dIt).depth, (l.getD 0 dIt).text, (l.getD 0 dIt).space, (l.getD 0 dIt).name, es⟩) (by omega) a n cc rfl rfl rfl rfl] at hst
  have hos := Only.grown hst.2
  have hlt0 : ∀ i, i < m → ∀ x, A i = some x → N i ≠ 0 → x.block < w.heap.size := fun i hi x hx hne => ((h.ats i (by omega)).1.in hx hne).2
  have hsz : w2.heap.size ≤ (w2.setCell ⟨g, 4, none⟩ (.slice a n cc)).heap.size := hst.2.size
  have hs2 := ho.size
  have hblk : ∀ (a : Option Addr) (n cc : Nat) (x : Addr), a = some x → (Value.slice a n cc).ownBlock = some x.block := fun a n cc x e => by subst e; rfl
  refine ⟨⟨hst.1, fun i hi => ?_, fun i hi x hx hxn => ?_, fun i j hi hj hij x y hx hy hxn hyn => ?_⟩, hel⟩
  · rw [List.length_set] at hi
    unfold putA
    by_cases e : i = 0
    · subst e
      have hx : (l.set 0 ⟨(l.getD 0 dIt).depth, (l.getD 0 dIt).text, (l.getD 0 dIt).space, (l.getD 0 dIt).name, es⟩).getD 0 dIt = ⟨(l.getD 0 dIt).depth, (l.getD 0 dIt).text, (l.getD 0 dIt).space, (l.getD 0 dIt).name, es⟩ := by rw [List.getD_eq_getElem?_getD, List.getElem?_set_self (by omega)]; rfl
      rw [if_pos rfl, if_pos rfl, if_pos rfl, hx]
      have h1 := hats.only hos fun x hx hxn hp => hne x.block (hblk _ _ _ _ hx) (by simpa using hp)
      refine ⟨⟨h1.ats, h1.own.imp id fun ⟨b, g1, g2, g3, g4⟩ => ⟨b, g1, g2, by omega, g4⟩⟩, fun e => ?_⟩
      subst e
      rcases hown.2 with ⟨hv, _⟩ | ⟨g', cap, cur, hv, _⟩
      · simp only [Value.slice.injEq] at hv; exact hv.2.2
      · cases hv
    · have hx : (l.set 0 ⟨(l.getD 0 dIt).depth, (l.getD 0 dIt).text, (l.getD 0 dIt).space, (l.getD 0 dIt).name, es⟩).getD i dIt = l.getD i dIt := by rw [List.getD_eq_getElem?_getD, List.getElem?_set_ne (by omega), ← List.getD_eq_getElem?_getD]
      rw [if_neg e, if_neg e, if_neg e, hx]
      have h0 := (h.ats i hi).1.only ho fun x hx hxn hp => hr.each i (by omega) hi x.block x hp hx hxn rfl
      have h1 := h0.only hos fun x hx hxn hp => h.apart i hi x hx hxn (by simp only [Option.some.injEq] at hp; simp [Value.ownBlock, hp])
      exact ⟨⟨h1.ats, h1.own.imp id fun ⟨b, g1, g2, g3, g4⟩ => ⟨b, g1, g2, by omega, g4⟩⟩, (h.ats i hi).2⟩
  · rw [List.length_set] at hi
    unfold putA at hx hxn
    by_cases e : i = 0
    · rw [if_pos e] at hx hxn
      intro hq
      exact hne x.block (hblk _ _ _ _ hx) (by simpa [Value.ownBlock] using hq.symm)
    · rw [if_neg e] at hx hxn
      exact h.apart i hi x hx hxn
  · rw [List.length_set] at hi hj
    unfold putA at hx hy hxn hyn
    have key : ∀ j, j < m → j ≠ 0 → ∀ x y, a = some x → A j = some y → n ≠ 0 → N j ≠ 0 → x.block ≠ y.block := fun j hj hjr x y hx hy hxn hyn he => by
      have h1 := hblk a n cc x hx
      rcases hat with e | ⟨q, e, hq⟩
      · rw [h1] at e
        exact hr.each j (by omega) (by omega) x.block y e.symm hy hyn he.symm
      · rw [h1] at e
        have := hlt0 j hj y hy hyn
        simp only [Option.some.injEq] at e
        omega
    by_cases e : i = 0
    · rw [if_pos e] at hx hxn
      rw [if_neg (by omega)] at hy hyn
      exact key j (by omega) (by omega) x y hx hy hxn hyn
    · rw [if_neg e] at hx hxn
      by_cases e2 : j = 0
      · rw [if_pos e2] at hy hyn
        exact fun he => key i (by omega) e y x hy hx hyn hxn he.symm
      · rw [if_neg e2] at hy hyn
        exact h.each i j hi hj hij x y hx hy hxn hyn
theorem wAtB {w w' : World} {nb k : Nat} {f : Nat → ByteArray} (h : WAt w nb k f) (hb : Below w.heap.size w w') : WAt w' nb k f := fun r hr => (hb.cell (World.block_lt_of_cell? _ _ (h r hr))).trans (h r hr)
theorem atts_snoc200 {es : List At} {x y : ByteArray} (h : ∀ i, (es.getD i dAt).name.size ≤ 200 ∧ (es.getD i dAt).value.size ≤ 200) (hx : x.size ≤ 200) (hy : y.size ≤ 200) : ∀ i, ((es ++ [(⟨x, y⟩ : At)]).getD i dAt).name.size ≤ 200 ∧ ((es ++ [(⟨x, y⟩ : At)]).getD i dAt).value.size ≤ 200 := by
  intro i
  by_cases hi : i < es.length
  · rw [List.getD_eq_getElem?_getD, List.getElem?_append_left hi, ← List.getD_eq_getElem?_getD]
    exact h i
  · rw [List.getD_eq_getElem?_getD, List.getElem?_append_right (by omega)]
    by_cases hi2 : i = es.length
    · subst hi2
      rw [Nat.sub_self]
      exact ⟨hx, hy⟩
    · rw [List.getElem?_eq_none (by simp; omega)]
      exact ⟨by decide, by decide⟩
theorem mids_snoc {l : List It} {x : It} (h : Mids l) (hx : Mid x) (hl : l.length + 1 ≤ 60) : Mids (l ++ [x]) := ⟨by rw [List.length_append]; exact hl, fun i => by
  by_cases hi : i < l.length
  · rw [List.getD_eq_getElem?_getD, List.getElem?_append_left hi, ← List.getD_eq_getElem?_getD]
    exact h.2 i
  · rw [List.getD_eq_getElem?_getD, List.getElem?_append_right (by omega)]
    by_cases hi2 : i = l.length
    · subst hi2
      rw [Nat.sub_self]
      exact hx
    · rw [List.getElem?_eq_none (by simp; omega)]
      exact dIt_mid⟩
set_option maxRecDepth 100000 in
set_option maxHeartbeats 1600000 in
theorem drawTreeOf_any (a : Option Addr) (n c : Nat) (xs : List Int) (w : World) (h : CodeAt w a n c xs) :
    Calls Tryz.prog 5 #[.slice a n c] w (TopPr w) := by
  have hbA := below1 w (.cells #[.int .i64 0, .string ⟨#[]⟩, .string ⟨#[]⟩, .int .i64 0, .string ⟨#[]⟩, .int .i64 0, .slice none 0 0] 26)
  have HC := Lib.hid (h.below hbA)
  have X0 := Lib.hid (X7.new w 26 (.int .i64 0) (.string ⟨#[]⟩) (.string ⟨#[]⟩) (.int .i64 0) (.string ⟨#[]⟩) (.int .i64 0) (.slice none 0 0))
  clear h
  go_enter Tryz.func5, Tryz.ntmps5
  go_wp2_with fail
  refine (source_any HC.out).mono ?_
  rintro e w1 ⟨rfl, hs, hb⟩
  rw [World.size_alloc] at hs
  have HB := Lib.hid (below_then hbA hb)
  have X1 := Lib.hid (X0.out.below hb)
  have KD := l7Bent_any (w.heap.size + 1) a n c xs 0 (by decide) w1 hs
  unfold PrBent at KD
  have hz1 := hs.lt
  clear hs hb hbA X0
  go_wp2_with fail
  refine KD.mono ?_
  clear KD
  rintro e w2 ⟨y, x, m, q, A, N, C, k', rfl, hG, hm, hPD, hk', hs2, hg⟩
  have X2' := Lib.hid (X1.out.grown hg (by intro e; injection e with e; omega))
  have HB2 := Lib.hid (below_step HB.out hg (by omega))
  have GM := Lib.hid hG
  have HP := Lib.hid hPD
  clear hs2 hg hG hPD X1
  have e0 := X2'.out.c0
  have e1 := X2'.out.c1
  have e2 := X2'.out.c2
  have e3 := X2'.out.c3
  have e4 := X2'.out.c4
  have e5 := X2'.out.c5
  have e6 := X2'.out.c6
  have g0 := X2'.out.fz 0 (by decide)
  have g1 := X2'.out.fz 1 (by decide)
  have g2 := X2'.out.fz 2 (by decide)
  have g3 := X2'.out.fz 3 (by decide)
  have g4 := X2'.out.fz 4 (by decide)
  have g5 := X2'.out.fz 5 (by decide)
  have g6 := X2'.out.fz 6 (by decide)
  have Z := X2'.out.fill (.int .i64 y.kind) (.string y.sender) (.string y.goal) (.int .i64 y.shown) (.string y.status) (.int .i64 y.prio) (.slice (some x) m q)
  have z0 := Z.c0
  have z1 := Z.c1
  have z2 := Z.c2
  have z3 := Z.c3
  have z4 := Z.c4
  have z5 := Z.c5
  have z6 := Z.c6
  clear Z
  have GI := Lib.hid (HP.out.own ((GM.out.onlyP (only_fill7 w2 w.heap.size (.int .i64 y.kind) (.string y.sender) (.string y.goal) (.int .i64 y.shown) (.string y.status) (.int .i64 y.prio) (.slice (some x) m q)) (fun i h1 h2 hp => by omega)).base (B' := w.heap.size) (by omega)))
  have BF := Lib.hid (below_fill7 HB2.out w.heap.size (Nat.le_refl _) (.int .i64 y.kind) (.string y.sender) (.string y.goal) (.int .i64 y.shown) (.string y.status) (.int .i64 y.prio) (.slice (some x) m q))
  go_wp2
  exact bodyPost_ret (v := .agg #[.int .i64 y.kind, .string y.sender, .string y.goal, .int .i64 y.shown, .string y.status, .int .i64 y.prio, .slice (some x) m q]) (by simp [results, Tryz.results5, go_sem, z0, z1, z2, z3, z4, z5, z6, e0, e1, e2, e3, e4, e5, e6]) rfl (by unfold TopPr; exact ⟨y, x, m, q, rfl, GI.out, HP.out, BF.out⟩)
def TopMore (w : World) (en : Ending) (w' : World) : Prop := ∃ (x : Option Addr) (m q : Nat) (l : List It), en = .returned (.slice x m q) ∧ OwnIts w' w.heap.size w'.heap.size x m q l ∧ SmallIts l ∧ Below w.heap.size w w'
theorem field6 (W : World) (y0 : Int) (y1 y2 : ByteArray) (y3 : Int) (y4 : ByteArray) (y5 : Int) (x : Option Addr) (m q : Nat) : (Instr.field 26 (.agg #[.int .i64 y0, .string y1, .string y2, .int .i64 y3, .string y4, .int .i64 y5, .slice x m q]) 6).run Tryz.prog W = .ok (.slice x m q) W := by kernel_rfl
set_option maxRecDepth 100000 in
set_option maxHeartbeats 1600000 in
theorem drawMoreFault_any (a : Option Addr) (n c : Nat) (xs : List Int) (w : World) (h : CodeAt w a n c xs) :
    Calls Tryz.prog 12 #[.slice a n c] w (TopMore w) := by
  have HC := Lib.hid h
  have hf := field6
  clear h
  unfold TopMore
  go_enter Tryz.func12, Tryz.ntmps12
  go_wp2_with fail
  refine (source_any HC.out).mono ?_
  rintro e w1 ⟨rfl, hs, hb⟩
  have HB := Lib.hid hb
  have KD := l7Bent_any w.heap.size a n c xs 0 (by decide) w1 hs
  unfold PrBent at KD
  have hz1 := hs.lt
  clear hs hb
  go_wp2_with fail
  refine KD.mono ?_
  clear KD
  rintro e w2 ⟨y, x, m, q, A, N, C, k', rfl, hG, hm, hPD, hk', hs2, hg⟩
  have GM := Lib.hid hG
  have HP := Lib.hid hPD
  have BB := below_step HB.out hg (Nat.le_refl _)
  clear hs2 hg hG hPD
  go_wp2
  go_ret
  exact ⟨_, _, _, _, rfl, (HP.out.own GM.out).mono (by omega) (Nat.le_refl _), HP.out.small.more, BB⟩
set_option maxHeartbeats 800000 in
theorem drawKindWord_any (a : Option Addr) (n c : Nat) (xs : List Int) (w : World) (h : CodeAt w a n c xs) :
    Calls Tryz.prog 10 #[.slice a n c] w fun en w' => (∃ r : Int, en = .returned (.int .i64 r) ∧ -1 ≤ r ∧ r ≤ 10) ∧ Below w.heap.size w w' := by
  have HC := Lib.hid h
  clear h
  go_enter Tryz.func10, Tryz.ntmps10
  go_wp2_with fail
  refine (source_any HC.out).mono ?_
  rintro e w1 ⟨rfl, hs, hb⟩
  have HB := Lib.hid hb
  have KD := l1Next_any w.heap.size a n c xs 0 9 (by decide) (by decide) (by decide) w1 hs
  unfold NextRes at KD
  clear hs hb
  go_wp2_with fail
  refine KD.mono ?_
  clear KD
  rintro e w2 ⟨r, rfl, hr, hs2, hg⟩
  have hr := hr (by decide)
  have BB := below_step HB.out hg (Nat.le_refl _)
  have q1 : IntKind.i64.wrap ((r : Int) - 1) = (r : Int) - 1 := IntWalk.i64_in _ (by omega)
  clear hs2 hg
  go_wp2
  go_ret
  exact ⟨⟨(r : Int) - 1, rfl, by omega, by omega⟩, BB⟩
set_option maxHeartbeats 800000 in
theorem drawShowWord_any (a : Option Addr) (n c : Nat) (xs : List Int) (w : World) (h : CodeAt w a n c xs) :
    Calls Tryz.prog 11 #[.slice a n c] w fun en w' => (∃ r : Int, en = .returned (.int .i64 r) ∧ -1 ≤ r ∧ r ≤ 10) ∧ Below w.heap.size w w' := by
  have HC := Lib.hid h
  clear h
  go_enter Tryz.func11, Tryz.ntmps11
  go_wp2_with fail
  refine (source_any HC.out).mono ?_
  rintro e w1 ⟨rfl, hs, hb⟩
  have HB := Lib.hid hb
  have KD := l1Next_any w.heap.size a n c xs 0 7 (by decide) (by decide) (by decide) w1 hs
  unfold NextRes at KD
  clear hs hb
  go_wp2_with fail
  refine KD.mono ?_
  clear KD
  rintro e w2 ⟨r, rfl, hr, hs2, hg⟩
  have hr := hr (by decide)
  have BB := below_step HB.out hg (Nat.le_refl _)
  have q1 : IntKind.i64.wrap ((r : Int) - 1) = (r : Int) - 1 := IntWalk.i64_in _ (by omega)
  clear hs2 hg
  go_wp2
  go_ret
  exact ⟨⟨(r : Int) - 1, rfl, by omega, by omega⟩, BB⟩
end Go.Proofs.YtjkmgpomcnplnaaGreatDoor
