/- What a bent tree wants: an append of noughts, a store into one item. -/
import Derived.Test.YtjkmgpomcnplnaaGreatDoorGS4
import Derived.Lib.AppendZerosOnto
import Derived.Test.YtjkmgpomcnplnaaGreatDoorGS1
import Derived.Test.YtjkmgpomcnplnaaGreatDoorGS2
import Derived.Lib.MapLaws
import Derived.Laws.BytesArg
import Derived.Lib.Strings
import Derived.Lib.IndexBytes
import Derived.Laws.Strings
namespace Go.Proofs.YtjkmgpomcnplnaaGreatDoor
open Go.ChangeShapes Go.WideShapes Go.ChangeAt Go.RowKit
set_option linter.unusedVariables false
theorem run_append_own_zeros {P : Program} (w : World) (base : Nat) (t tn ty e : TypeId) (i : TypeInfo) (z : Value) (size bytes : Nat) (kq kn : IntKind) (ht : P.underlying t = some (.slice e)) (htn : P.underlying tn = some (.int kn)) (hi : P.info? e = some i) (hz : i.zero = some z)
    (hsize : i.size = size) (hby : i.bytes = bytes) (hzs : z.cells.size = size) (hsz : 0 < size)
    (v : Value) (n : Nat) (xs : List Value) (hown : w.ownsRow base e size v n xs) (hn0 : 0 < n ∨ ∃ y c, v = .slice (some y) n c)
    (k : Nat) (h0 : 0 < k) (h1 : ∀ u ∈ (Builtin.zeroCells z.cells k).toList, u.oneCell' = true)
    (h63 : n + k ≤ maxLen) (hbytes : (n + k) * bytes ≤ 140737488355328) (hbase : base ≤ w.heap.size) :
    ∃ v' w', (Builtin.append_ #[t, tn] ty #[v, .int kq k]).run P w = .ok v' w' ∧ w'.ownsRow base e size v' (n + k) (xs ++ (Builtin.zeroCells z.cells k).toList) ∧ w.grownBy w' v.ownBlock ∧
      (v'.ownBlock = v.ownBlock ∨ v'.ownBlock = some w.heap.size) := by
  subst hsize
  subst hby
  have hsmall : n + k ≤ 9223372036854775807 := by simp only [maxLen] at h63; omega
  have hl : (Builtin.zeroCells z.cells k).toList.length = k * i.size := by rw [Array.length_toList, size_zeroCells, hzs]
  have hlen : (xs ++ (Builtin.zeroCells z.cells k).toList).length = (n + k) * i.size := by rw [List.length_append, hown.1, hl, Nat.add_mul]
  rcases hown.2 with ⟨rfl, hn⟩ | ⟨g, cap, cur, rfl, hbg, hg, hnc, hcm, hcs, htake⟩
  · rcases hn0 with h | ⟨y, c, h⟩
    · omega
    · cases h
  · by_cases hroom : n + k ≤ cap
    · have hfit : n * i.size + (Builtin.zeroCells z.cells k).toList.length ≤ cur.size := by rw [hl, hcs, ← Nat.add_mul]; exact Nat.mul_le_mul_right _ hroom
      have hst := run_storeCells_at P g (n * i.size) e (Builtin.zeroCells z.cells k).toList 0 cur w hg (by simpa using hfit) h1
      simp only [Nat.add_zero] at hst
      have hw : IntKind.i64.wrap (k : Int) = k := by rw [IntKind.wrap_i64]; omega
      have hneg : ¬ ((k : Int) < 0) := by omega
      have hns : ¬ (k * i.size = 0) := Nat.mul_ne_zero (by omega) (by omega)
      have hk8 : k * i.bytes ≤ 140737488355328 := Nat.le_trans (Nat.mul_le_mul_right _ (by omega)) hbytes
      have h48i : ¬ (281474976710656 < (k : Int) * (i.bytes : Int)) := by
        rw [← Int.natCast_mul]
        omega
      have hr : (Builtin.append_ #[t, tn] ty #[.slice (some ⟨g, 0, none⟩) n cap, .int kq k]).run P w = .ok (.slice (some ⟨g, 0, none⟩) (n + k) cap) (w.setRow g (cur.toList.take (n * i.size) ++ (Builtin.zeroCells z.cells k).toList ++ cur.toList.drop (n * i.size + (Builtin.zeroCells z.cells k).toList.length)).toArray) := by
        simp [Builtin.append_, run_underlying ht, run_underlying htn, sizeOf, typeInfo, zeroValue, hi, hz, asInt, asIntOf, hw, hneg, hns, h48i, hroom, Addr.add_lit, hst]
      refine ⟨_, _, hr, ⟨hlen, .inr ⟨g, cap, _, rfl, hbg, setRow_heap w g cur _ e _ hg, hroom, hcm, ?_, ?_⟩⟩, ⟨rfl, rfl, rfl, by simp, fun k _ hk => setRow_other w g k _ (fun e => hk (by simp [Value.ownBlock, e]))⟩, Or.inl rfl⟩
      · simp only [List.size_toArray, List.length_append, List.length_take, List.length_drop, Array.length_toList] at hfit ⊢
        omega
      · rw [htake, ← hlen]
        exact List.take_left
    · have holds : ∀ j u, xs[j]? = some u → w.cell? ((⟨g, 0, none⟩ : Addr).add j) = some u := hown.cells (g := g) rfl
      have hold : (Builtin.firstCells i.size n (.slice (some ⟨g, 0, none⟩) n cap)).run P w.drew = .ok xs.toArray w.drew := run_firstCells_some (P := P) w.drew i.size n ⟨g, 0, none⟩ n cap xs hown.1 holds
      have hk8 : k * i.bytes ≤ 140737488355328 := Nat.le_trans (Nat.mul_le_mul_right _ (by omega)) hbytes
      have hr := Lib.run_append_grow_zeros (P := P) w t tn ty e i z kq kn ht htn hi hz (some ⟨g, 0, none⟩) n cap xs hold k h0 hsz (by omega) (by omega) (by omega) (growslice_fits (by omega) hbytes)
      have hge := grownCap_ge w (n + k) cap e
      have hcm2 : grownCap w (n + k) cap e ≤ maxLen := grownCap_le_maxLen w (n + k) cap e h63
      refine ⟨_, _, hr, ⟨hlen, .inr ⟨w.heap.size, _, _, rfl, hbase, heap_alloc_new w.drew _, hge, hcm2, ?_, ?_⟩⟩, ⟨rfl, rfl, rfl, by simp, fun j hj _ => heap_alloc_old w.drew _ hj⟩, Or.inr rfl⟩
      · simp only [Array.size_append, List.size_toArray, size_zeroCells, hzs, hown.1, ← Nat.add_mul]
        congr 1
        omega
      · simp only [Array.toList_append, List.append_assoc]
        rw [← List.append_assoc, ← hlen]
        exact List.take_left
theorem wpList_append_zeros {P : Program} (w : World) {ops : Array Oper} {rest : List Oper} {o : Oper} {a : Act} {Q : Exit → Act → World → Prop} (hgd : o.guard = none) (s x : Operand) (t tn : TypeId)
    (ho : o.op = .call { callee := .builtin .append, args := #[s, x], argTypes := #[t, tn] })
    (base : Nat) (e : TypeId) (i : TypeInfo) (z : Value) (size bytes : Nat) (kq kn : IntKind) (ht : P.underlying t = some (.slice e)) (htn : P.underlying tn = some (.int kn)) (hi : P.info? e = some i) (hz : i.zero = some z)
    (hsize : i.size = size) (hby : i.bytes = bytes) (hzs : z.cells.size = size) (hsz : 0 < size)
    (v : Value) (n : Nat) (xs : List Value) (hs : a.eval s = v) (hown : w.ownsRow base e size v n xs) (hn0 : 0 < n ∨ ∃ y c, v = .slice (some y) n c)
    (k : Nat) (hx : a.eval x = .int kq k) (h0 : 0 < k) (h1 : ∀ u ∈ (Builtin.zeroCells z.cells k).toList, u.oneCell' = true)
    (h63 : n + k ≤ maxLen) (hbytes : (n + k) * bytes ≤ 140737488355328) (hbase : base ≤ w.heap.size)
    (h : ∀ v' w', w'.ownsRow base e size v' (n + k) (xs ++ (Builtin.zeroCells z.cells k).toList) → w.grownBy w' v.ownBlock → (v'.ownBlock = v.ownBlock ∨ v'.ownBlock = some w.heap.size) → wpList P ops Q rest (a.put o.dst v') w') :
    wpList P ops Q (o :: rest) a w := by
  obtain ⟨v', w', hr, h2, h3, h4⟩ := run_append_own_zeros (P := P) w base t tn o.type e i z size bytes kq kn ht htn hi hz hsize hby hzs hsz v n xs hown hn0 k h0 h1 h63 hbytes hbase
  exact Lib.wpList_append_run w hgd s x t tn ho v (.int kq k) hs hx v' w' hr (h v' w' h2 h3 h4)
theorem cellI_at {l : List It} {A : Nat → Option Addr} {N C : Nat → Nat} (i q : Nat) (hq : q < 5) :
    cellI l A N C (i * 5 + q) = if q = 0 then .int .i64 (l.getD i dIt).depth else if q = 1 then .string (l.getD i dIt).text else if q = 2 then .string (l.getD i dIt).space else if q = 3 then .string (l.getD i dIt).name else .slice (A i) (N i) (C i) := by
  unfold cellI
  rw [show (i * 5 + q) % 5 = q by omega, show (i * 5 + q) / 5 = i by omega]
theorem GrowR.cellAt {w : World} {B g n c : Nat} {l : List It} {A : Nat → Option Addr} {N C : Nat → Nat} (h : GrowR w B (.slice (some ⟨g, 0, none⟩) n c) n l A N C) (i q : Nat) (hi : i < n) (hq : q < 5) : w.cell? ⟨g, i * 5 + q, none⟩ = some (cellI l A N C (i * 5 + q)) := by
  have hlen := h.g.len
  rw [h.g.row.cellAt _ (by omega), flatI_get _ _ _ _ _ (by omega)]
structure BentIt (x : It) : Prop where
  depth : -1 ≤ x.depth ∧ x.depth ≤ 7
  sizes : x.text.size ≤ 60 ∧ x.space.size ≤ 60 ∧ x.name.size ≤ 60
  few : x.attrs.length ≤ 6
  short : ShortAts x.attrs
theorem DrawnIt.bent {x : It} (h : DrawnIt x) : BentIt x := ⟨by have := h.depth; omega, h.sizes, by have := h.few; omega, h.short⟩
theorem BentIt.small {x : It} (h : BentIt x) : SmallIt x := ⟨by have := h.sizes; omega, by have := h.few; omega, fun i hi => by have := h.short i; unfold SmallAt; omega⟩
def BentIts (l : List It) : Prop := l.length ≤ 100 ∧ ∀ i, BentIt (l.getD i dIt)
theorem BentIts.small {l : List It} (h : BentIts l) : SmallIts l := ⟨by have := h.1; omega, fun i hi => (h.2 i).small⟩
theorem bent_set {l : List It} (h : BentIts l) {r : Nat} {y : It} (hy : BentIt y) : BentIts (l.set r y) := by
  refine ⟨by rw [List.length_set]; exact h.1, fun i => ?_⟩
  rw [List.getD_eq_getElem?_getD, List.getElem?_set]
  by_cases e : r = i
  · rw [if_pos e]
    split
    · exact hy
    · exact dIt_drawn.bent
  · rw [if_neg e, ← List.getD_eq_getElem?_getD]
    exact h.2 i
theorem drawn_bent {l : List It} {m : Nat} (h : ∀ i, DrawnIt (l.getD i dIt)) (hl : l.length = m) (hm : m ≤ 100) : BentIts l := ⟨by omega, fun i => (h i).bent⟩
theorem GrowIts.onlyP {w w' : World} {P : Nat → Prop} {B : Nat} {v : Value} {n : Nat} {l : List It} {A : Nat → Option Addr} {N C : Nat → Nat} (h : GrowIts w B v n l A N C) (ho : Only P w w') (hP : ∀ i, B ≤ i → i < w.heap.size → ¬ P i) : GrowIts w' B v n l A N C := by
  refine ⟨owns_only h.row ho fun g hg => hP g (h.row.lt g hg).1 (h.row.lt g hg).2, fun i hi => ⟨?_, (h.ats i hi).2⟩, h.apart, h.each⟩
  have h1 := (h.ats i hi).1.only ho fun x hx hne => hP x.block ((h.ats i hi).1.in hx hne).1 ((h.ats i hi).1.in hx hne).2
  exact ⟨h1.ats, h1.own.imp id fun ⟨b, g1, g2, g3, g4⟩ => ⟨b, g1, g2, by have := ho.size; omega, g4⟩⟩
theorem GrowIts.base {w : World} {B B' : Nat} {v : Value} {n : Nat} {l : List It} {A : Nat → Option Addr} {N C : Nat → Nat} (h : GrowIts w B v n l A N C) (hB : B' ≤ B) : GrowIts w B' v n l A N C :=
  ⟨owns_mono h.row hB, fun i hi => ⟨⟨(h.ats i hi).1.ats, (h.ats i hi).1.own.imp id fun ⟨b, g1, g2, g3, g4⟩ => ⟨b, g1, by omega, g3, g4⟩⟩, (h.ats i hi).2⟩, h.apart, h.each⟩
theorem flatI_set {l : List It} {A : Nat → Option Addr} {N C : Nat → Nat} {r f : Nat} (hr : r < l.length) (hf : f < 4) {y : It} {u : Value} (hu : u = if f = 0 then .int .i64 y.depth else if f = 1 then .string y.text else if f = 2 then .string y.space else .string y.name)
    (h0 : f = 0 ∨ y.depth = (l.getD r dIt).depth) (h1 : f = 1 ∨ y.text = (l.getD r dIt).text) (h2 : f = 2 ∨ y.space = (l.getD r dIt).space) (h3 : f = 3 ∨ y.name = (l.getD r dIt).name) : (flatI l A N C).set (r * 5 + f) u = flatI (l.set r y) A N C := by
  apply List.ext_getElem?
  intro j
  have hl : (l.set r y).length = l.length := List.length_set ..
  by_cases hj : j < l.length * 5
  · rw [flatI_get _ _ _ _ _ (by rw [hl]; exact hj), List.getElem?_set]
    by_cases e : r * 5 + f = j
    · subst e
      rw [if_pos rfl, if_pos (by rw [flatI_length]; exact hj), hu]
      have g : (l.set r y).getD r dIt = y := by rw [List.getD_eq_getElem?_getD, List.getElem?_set, if_pos rfl, if_pos hr]; rfl
      rw [cellI_five r f (by omega), g]
      rcases f with _ | _ | _ | _ | f
      · rfl
      · rfl
      · rfl
      · rfl
      · omega
    · rw [if_neg e, flatI_get _ _ _ _ _ hj]
      obtain ⟨i, q, hq, rfl⟩ : ∃ i q, q < 5 ∧ j = i * 5 + q := ⟨j / 5, j % 5, by omega, by omega⟩
      rw [cellI_five i q hq, cellI_five i q hq]
      by_cases ei : r = i
      · subst ei
        have g : (l.set r y).getD r dIt = y := by rw [List.getD_eq_getElem?_getD, List.getElem?_set, if_pos rfl, if_pos hr]; rfl
        rw [g]
        rcases q with _ | _ | _ | _ | _ | q
        · rw [h0.resolve_left (by omega)]; rfl
        · rw [h1.resolve_left (by omega)]; rfl
        · rw [h2.resolve_left (by omega)]; rfl
        · rw [h3.resolve_left (by omega)]; rfl
        · rfl
        · omega
      · have g : (l.set r y).getD i dIt = l.getD i dIt := by rw [List.getD_eq_getElem?_getD, List.getElem?_set, if_neg ei, ← List.getD_eq_getElem?_getD]
        rw [g]
  · rw [List.getElem?_eq_none (by rw [List.length_set, flatI_length]; omega), List.getElem?_eq_none (by rw [flatI_length, hl]; omega)]
theorem GrowIts.put {w : World} {B g n c : Nat} {l : List It} {A : Nat → Option Addr} {N C : Nat → Nat} (h : GrowIts w B (.slice (some ⟨g, 0, none⟩) n c) n l A N C) {r f : Nat} (hr : r < n) (hf : f < 4) {y : It} {u : Value} (hu : u = if f = 0 then .int .i64 y.depth else if f = 1 then .string y.text else if f = 2 then .string y.space else .string y.name)
    (h0 : f = 0 ∨ y.depth = (l.getD r dIt).depth) (h1 : f = 1 ∨ y.text = (l.getD r dIt).text) (h2 : f = 2 ∨ y.space = (l.getD r dIt).space) (h3 : f = 3 ∨ y.name = (l.getD r dIt).name) (h4 : y.attrs = (l.getD r dIt).attrs) :
    GrowIts (w.setCell ⟨g, r * 5 + f, none⟩ u) B (.slice (some ⟨g, 0, none⟩) n c) n (l.set r y) A N C := by
  have hlen := h.len
  have hs := h.row.stored (r * 5 + f) u
  rw [flatI_set (by omega) hf hu h0 h1 h2 h3] at hs
  refine ⟨hs.1, fun i hi => ?_, fun i hi => ?_, fun i j hi hj => ?_⟩
  · rw [List.length_set] at hi
    have e : ((l.set r y).getD i dIt).attrs = (l.getD i dIt).attrs := by
      rw [List.getD_eq_getElem?_getD, List.getElem?_set]
      by_cases e : r = i
      · subst e
        rw [if_pos rfl, if_pos (by omega)]
        exact h4
      · rw [if_neg e, ← List.getD_eq_getElem?_getD]
    rw [e]
    have h1 := (h.ats i hi).1.only (Only.grown hs.2) fun x hx hne hq => h.apart i hi x hx hne (by simp only [Option.some.injEq] at hq; simp [Value.ownBlock, hq])
    exact ⟨⟨h1.ats, h1.own.imp id fun ⟨b, g1, g2, g3, g4⟩ => ⟨b, g1, g2, by have := hs.2.size; omega, g4⟩⟩, (h.ats i hi).2⟩
  · rw [List.length_set] at hi
    exact h.apart i hi
  · rw [List.length_set] at hi hj
    exact h.each i j hi hj
theorem drawn_set {l : List It} (h : ∀ i, DrawnIt (l.getD i dIt)) {r : Nat} {y : It} (hy : DrawnIt y) : ∀ i, DrawnIt ((l.set r y).getD i dIt) := by
  intro i
  rw [List.getD_eq_getElem?_getD, List.getElem?_set]
  by_cases e : r = i
  · rw [if_pos e]
    split
    · exact hy
    · exact dIt_drawn
  · rw [if_neg e, ← List.getD_eq_getElem?_getD]
    exact h i
theorem drawn_append {l l2 : List It} (h : ∀ i, DrawnIt (l.getD i dIt)) (h2 : ∀ i, DrawnIt (l2.getD i dIt)) : ∀ i, DrawnIt ((l ++ l2).getD i dIt) := by
  intro i
  rw [List.getD_eq_getElem?_getD]
  by_cases hi : i < l.length
  · rw [List.getElem?_append_left hi, ← List.getD_eq_getElem?_getD]
    exact h i
  · rw [List.getElem?_append_right (by omega), ← List.getD_eq_getElem?_getD]
    exact h2 _
theorem drawn_moved {l : List It} (h : ∀ i, DrawnIt (l.getD i dIt)) (n : Nat) : ∀ i, DrawnIt ((movedTo l 0 n 0).getD i dIt) := by
  intro i
  by_cases hi : i < n - 0
  · rw [movedTo_get _ _ _ _ _ hi]
    have := h (0 + i)
    exact ⟨by have := this.depth; simp only [Int.add_zero]; exact this, this.sizes, this.few, this.short⟩
  · rw [List.getD_eq_getElem?_getD, List.getElem?_eq_none (by rw [movedTo_length]; omega)]
    exact dIt_drawn
theorem drawn_small {l : List It} (h : ∀ i, DrawnIt (l.getD i dIt)) (hl : l.length ≤ 100) : SmallIts l := ⟨by omega, fun i hi => by
  have := h i
  exact ⟨by have := this.sizes; omega, by have := this.few; omega, fun j hj => by have := this.short j; unfold SmallAt; omega⟩⟩
theorem GrowIts.joinO {w w1 : World} {B B1 B2 : Nat} {v v' : Value} {n k : Nat} {l l2 : List It} {A A2 : Nat → Option Addr} {N C N2 C2 : Nat → Nat}
    (h : GrowIts w B1 v n l A N C) (hk : l2.length = k) (hA : ∀ i, i < k → OwnAts w B2 B1 (A2 i) (N2 i) (C2 i) (l2.getD i dIt).attrs ∧ (A2 i = none → C2 i = 0))
    (hE : ∀ i j, i < k → j < k → i ≠ j → ∀ x y, A2 i = some x → A2 j = some y → N2 i ≠ 0 → N2 j ≠ 0 → x.block ≠ y.block) (hB : B ≤ B1) (hB2 : B ≤ B2) (hB1 : B1 ≤ w.heap.size)
    (hr : w1.ownsRow B1 54 5 v' (n + k) (flatI l A N C ++ flatI l2 A2 N2 C2)) (hg : w.grownBy w1 v.ownBlock) (hv : v'.ownBlock = v.ownBlock ∨ ∃ g, v'.ownBlock = some g ∧ w.heap.size ≤ g) :
    GrowIts w1 B v' (n + k) (l ++ l2) (joinA l.length A A2) (joinA l.length N N2) (joinA l.length C C2) := by
  have hon := Only.grown hg
  have hs1 := hg.size
  have hvlt : ∀ g, v.ownBlock = some g → B1 ≤ g ∧ g < w.heap.size := fun g hgb => h.row.lt g hgb
  have hold : ∀ i, i < l.length → ∀ z, A i = some z → N i ≠ 0 → B1 ≤ z.block ∧ z.block < w.heap.size := fun i hi z hz hne => (h.ats i hi).1.in hz hne
  have hnew : ∀ i, i < k → ∀ z, A2 i = some z → N2 i ≠ 0 → B2 ≤ z.block ∧ z.block < B1 := fun i hi z hz hne => (hA i hi).1.in hz hne
  have j1 : ∀ {α : Type} (F G : Nat → α) (i : Nat), i < l.length → joinA l.length F G i = F i := fun F G i hi => by unfold joinA; rw [if_pos hi]
  have j2 : ∀ {α : Type} (F G : Nat → α) (i : Nat), l.length ≤ i → joinA l.length F G i = G (i - l.length) := fun F G i hi => by unfold joinA; rw [if_neg (by omega)]
  have hlen : ∀ i, i < (l ++ l2).length → i < l.length ∨ (l.length ≤ i ∧ i - l.length < k) := fun i hi => by
    rw [List.length_append] at hi
    omega
  refine ⟨by rw [flatI_join]; exact owns_mono hr hB, fun i hi => ?_, fun i hi z hz hne => ?_, fun i j hi hj hij z z' hz hz' hn hn' => ?_⟩
  · rcases hlen i hi with h1 | ⟨h1, h2⟩
    · rw [j1 _ _ _ h1, j1 _ _ _ h1, j1 _ _ _ h1]
      have hl : (l ++ l2).getD i dIt = l.getD i dIt := by rw [List.getD_eq_getElem?_getD, List.getElem?_append_left h1, ← List.getD_eq_getElem?_getD]
      rw [hl]
      have h3 := (h.ats i h1).1.only hon fun z hz hne hq => h.apart i h1 z hz hne hq.symm
      exact ⟨⟨h3.ats, h3.own.imp id fun ⟨b, g1, g2, g3, g4⟩ => ⟨b, g1, by omega, by omega, g4⟩⟩, (h.ats i h1).2⟩
    · rw [j2 _ _ _ h1, j2 _ _ _ h1, j2 _ _ _ h1]
      have hl : (l ++ l2).getD i dIt = l2.getD (i - l.length) dIt := by rw [List.getD_eq_getElem?_getD, List.getElem?_append_right h1, ← List.getD_eq_getElem?_getD]
      rw [hl]
      have h3 := (hA _ h2).1.only hon fun z hz hne hq => by
        have g1 := (hnew _ h2 z hz hne).2
        have g2 := hvlt z.block hq.symm
        omega
      exact ⟨⟨h3.ats, h3.own.imp id fun ⟨b, g1, g2, g3, g4⟩ => ⟨b, g1, by omega, by omega, g4⟩⟩, (hA _ h2).2⟩
  · rcases hlen i hi with h1 | ⟨h1, h2⟩
    · rw [j1 _ _ _ h1] at hz hne
      have g1 := hold i h1 z hz hne
      rcases hv with hv | ⟨g, hv, hg2⟩
      · rw [hv]
        exact h.apart i h1 z hz hne
      · rw [hv]
        intro hq
        simp only [Option.some.injEq] at hq
        omega
    · rw [j2 _ _ _ h1] at hz hne
      have g1 := hnew _ h2 z hz hne
      rcases hv with hv | ⟨g, hv, hg2⟩
      · rw [hv]
        intro hq
        have := hvlt _ hq
        omega
      · rw [hv]
        intro hq
        simp only [Option.some.injEq] at hq
        omega
  · rcases hlen i hi with h1 | ⟨h1, h2⟩
    · rw [j1 _ _ _ h1] at hz hn
      have g1 := hold i h1 z hz hn
      rcases hlen j hj with h3 | ⟨h3, h4⟩
      · rw [j1 _ _ _ h3] at hz' hn'
        exact h.each i j h1 h3 hij z z' hz hz' hn hn'
      · rw [j2 _ _ _ h3] at hz' hn'
        have g2 := hnew _ h4 z' hz' hn'
        omega
    · rw [j2 _ _ _ h1] at hz hn
      have g1 := hnew _ h2 z hz hn
      rcases hlen j hj with h3 | ⟨h3, h4⟩
      · rw [j1 _ _ _ h3] at hz' hn'
        have g2 := hold j h3 z' hz' hn'
        omega
      · rw [j2 _ _ _ h3] at hz' hn'
        exact hE _ _ h2 h4 (by omega) z z' hz hz' hn hn'
def ItsGrowS (w : World) (l : List It) (e : Ending) (w' : World) : Prop := ∃ (x : Addr) (n c : Nat) (A : Nat → Option Addr) (N C : Nat → Nat), e = .returned (.slice (some x) n c) ∧ GrowIts w' w.heap.size (.slice (some x) n c) n l A N C ∧ Below w.heap.size w w'
set_option maxRecDepth 100000 in
set_option maxHeartbeats 3200000 in
theorem specMovedG_any (lo hi : Nat) (a : Option Addr) (n c f e : Nat) (by_ : Int) (l : List It) (w : World) (hd : ∀ i, i < n → -1000 ≤ (l.getD i dIt).depth ∧ (l.getD i dIt).depth ≤ 1000) (hby : -1000 ≤ by_ ∧ by_ ≤ 1000) (hA : ∀ i, i < n → (l.getD i dIt).attrs.length ≤ 1048576)
    (hf : f ≤ e) (he : e ≤ n) (h : OwnIts w lo hi a n c l) :
    Calls Tryz.prog 78 #[.slice a n c, .int .i64 f, .int .i64 e, .int .i64 by_] w (ItsGrowS w (movedTo l f e by_)) := by
  obtain ⟨i0, hi0, hz0, hz1, hz2⟩ := info_parts itemInfo
  have hm := h.max
  have HD := Lib.hid hd
  have HA := Lib.hid hA
  have HR := Lib.hid h.row
  have HIT := Lib.hid h.it
  clear h hd hA
  go_enter Tryz.func78, Tryz.ntmps78
  go_wp2
  go_loopw [9, 10] (fun v i wr => ∃ (k : Nat) (av : Option Addr) (nv cv : Nat) (A : Nat → Option Addr) (N C : Nat → Nat), f ≤ k ∧ k ≤ e ∧ i = .int .i64 k ∧ v = .slice av nv cv ∧ (∃ x, av = some x) ∧ GrowIts wr w.heap.size (.slice av nv cv) nv (movedTo l f k by_) A N C ∧ Below w.heap.size w wr) (fun _ i _ => e - (intOf i).toNat)
  case atStart =>
    refine ⟨f, some ⟨w.heap.size, 0, none⟩, 0, 0, fun _ => none, fun _ => 0, fun _ => 0, Nat.le_refl _, hf, rfl, rfl, ⟨_, rfl⟩, ?_, below1 _ _⟩
    have h0 : movedTo l f f by_ = [] := by simp [movedTo]
    rw [h0]
    exact ⟨lit_item w, fun i hi => by simp at hi, fun i hi => by simp at hi, fun i j hi => by simp at hi⟩
  case round =>
    obtain ⟨k, av, nv, cv, A, N, C, hk1, hk2, rfl, rfl, hsome, hg, hb⟩ := hrel
    have HG := Lib.hid hg
    have HB := Lib.hid hb
    have hnv : nv ≤ 1048576 := by have := hg.len; rw [movedTo_length] at this; omega
    clear hg hb
    by_cases hlt : k < e
    · obtain ⟨b, A2, N2, C2, rfl, hlo, hhi, hroom, hcs, _, _⟩ := HR.out.resolve_left (by omega)
      have hown := hcs k (by omega)
      have hbb := hroom.1
      have hit := HIT.out k (by omega)
      have hcell := hown.1.below hbb HB.out
      have hats := hown.2.ats.below HB.out
      have hI : ItAt wr b (k * 5) (l.getD k dIt) := ⟨Nat.lt_of_lt_of_le hbb HB.out.size, hit.1, hit.2, hcell.c0, hcell.c1, hcell.c2, hcell.c3, _, _, _, hcell.c4, hats⟩
      have K := Lib.hid (specItem_any b (k * 5) (l.getD k dIt) by_ wr (HD.out k (by omega)) hby (HA.out k (by omega)) _ _ _ hcell.c4 hcell.nil hats hI)
      have HST := Lib.hid (movedTo_step l hk1 by_)
      have q0 : (k : Int) < (n : Int) := by omega
      clear hroom hcs hown hit hcell hats hI
      generalize l.getD k dIt = x at K HST
      obtain ⟨xd, xt, xs, xn, xa⟩ := x
      dsimp only at K HST
      go_wp2_with fail
      refine K.out.mono ?_
      rintro en w1 ⟨a5, n5, c5, rfl, hat5, hnil5, hb1⟩
      dsimp only at hat5
      have HG1 := Lib.hid (HG.out.below hb1)
      have HAT5 := Lib.hid hat5
      have HNIL5 := Lib.hid hnil5
      have HB1 := Lib.hid hb1
      have HBW1 := Lib.hid (HB.out.trans (hb1.mono HB.out.size))
      clear hat5 hnil5 hb1
      go_wp2_with (at_builtin; refine wpList_append_own_at _ rfl _ _ 24 rfl w.heap.size 54 i0 _ 5 80 Tryz.underlying24 hi0 hz0 hz1 hz2 rfl (by decide) _ nv _ rfl (HG1.out.row.alloc _) ⟨w1.heap.size, 0, none⟩ 1 1 [.int .i64 (xd + by_), .string xt, .string xs, .string xn, .slice a5 n5 c5] rfl rfl ?c1 ?c2 ?c3 ?c4 ?c5 ?_)
      case c1 =>
        intro j v hj
        match j, hj with
        | 0, hj => simp at hj; subst hj; rw [Addr.add_lit]; go_simp
        | 1, hj => simp at hj; subst hj; rw [Addr.add_lit]; go_simp
        | 2, hj => simp at hj; subst hj; rw [Addr.add_lit]; go_simp
        | 3, hj => simp at hj; subst hj; rw [Addr.add_lit]; go_simp
        | 4, hj => simp at hj; subst hj; rw [Addr.add_lit]; go_simp
        | j + 5, hj => simp at hj
      case c2 => intro v hv; simp at hv; rcases hv with rfl | rfl | rfl | rfl | rfl <;> rfl
      case c3 => unfold maxLen; omega
      case c4 => omega
      case c5 => have := HBW1.out.size; simp; omega
      intro v' w2 hown' hgrow _ hblk
      obtain ⟨a', c', rfl⟩ := owns_slice hown'
      have HSM := Lib.hid (owns_some hown' (by omega))
      have HG2 : Hid (GrowIts w2 w.heap.size (.slice a' (nv + 1) c') (nv + 1) (movedTo l f (k + 1) by_) (putA (movedTo l f k by_).length a5 A) (putA (movedTo l f k by_).length n5 N) (putA (movedTo l f k by_).length c5 C)) := Lib.hid (by
        rw [HST.out]
        have h5 := HAT5.out.only (Only.below (P := fun _ => False) (below1 w1 (.cells #[.int .i64 (xd + by_), .string xt, .string xs, .string xn, .slice a5 n5 c5] 54))) fun _ _ _ h => h
        refine HG.out.snoc (x := ⟨xd + by_, xt, xs, xn, xa⟩) (w0 := w1.alloc (.cells #[.int .i64 (xd + by_), .string xt, .string xs, .string xn, .slice a5 n5 c5] 54)) (below_then HB1.out (below1 _ _)) ⟨h5.ats, h5.own.imp id fun ⟨b5, g1, g2, g3, g4⟩ => ⟨b5, g1, g2, by simp; omega, g4⟩⟩ HNIL5.out HB.out.size hown' hgrow ?_
        rcases hblk with e | e
        · exact .inl e
        · exact .inr ⟨_, e, by simp⟩)
      have HB2 := Lib.hid (below_appended HBW1.out HG1.out.row hgrow)
      clear hown' hgrow hblk
      go_wp2
      go_roundw
      case rel => exact ⟨k + 1, a', _, c', _, _, _, by omega, by omega, by go_num, rfl, HSM.out, HG2.out, HB2.out⟩
      case measure => simp [intOf]; omega
    · obtain rfl : k = e := by omega
      go_wp2
      go_ret
      obtain ⟨x, rfl⟩ := hsome
      exact ⟨_, nv, cv, A, N, C, rfl, HG.out, HB.out⟩
theorem specAllG_any (lo hi : Nat) (a : Option Addr) (n c : Nat) (by_ : Int) (l : List It) (w : World) (hd : ∀ i, i < n → -1000 ≤ (l.getD i dIt).depth ∧ (l.getD i dIt).depth ≤ 1000) (hby : -1000 ≤ by_ ∧ by_ ≤ 1000) (hA : ∀ i, i < n → (l.getD i dIt).attrs.length ≤ 1048576)
    (h : OwnIts w lo hi a n c l) :
    Calls Tryz.prog 41 #[.slice a n c, .int .i64 by_] w (ItsGrowS w (movedTo l 0 n by_)) := by
  have hm := h.max
  have K := Lib.hid (specMovedG_any lo hi a n c 0 n by_ l w hd hby hA (Nat.zero_le _) (Nat.le_refl _) h)
  clear h hd hA
  go_enter Tryz.func41, Tryz.ntmps41
  go_wp2_with fail
  refine K.out.mono ?_
  rintro e w1 ⟨a1, n1, c1, A1, N1, C1, rfl, hown, hb⟩
  have HO := Lib.hid hown
  have HB := Lib.hid hb
  clear hown hb
  go_wp2
  go_ret
  exact ⟨_, _, _, _, _, _, rfl, HO.out, HB.out⟩
def letterB (c : Int) : Bool := decide (97 ≤ c ∧ c ≤ 122 ∨ 65 ≤ c ∧ c ≤ 90 ∨ c = 95)
def nameB (c : Int) : Bool := letterB c || decide (48 ≤ c ∧ c ≤ 57 ∨ c = 45 ∨ c = 46)
theorem l1Letter_any (c : Int) (w : World) :
    Calls Tryz.prog 114 #[.int .u8 c] w fun e w' => e = .returned (.bool (letterB c)) ∧ w' = w := by
  go_enter Tryz.func114, Tryz.ntmps114
  go_wp2
  all_goals
    go_ret
    exact ⟨ret_bool (by rw [Bool.eq_iff_iff]; simp [letterB] <;> omega), rfl⟩
theorem l1NameByte_any (c : Int) (w : World) :
    Calls Tryz.prog 115 #[.int .u8 c] w fun e w' => e = .returned (.bool (nameB c)) ∧ w' = w := by
  cases hq : letterB c
  all_goals
    go_enter Tryz.func115, Tryz.ntmps115
    go_wp2_with (go_at_call 114; refine (l1Letter_any _ _).mono ?_; rintro e w' ⟨rfl, rfl⟩)
    all_goals
      go_ret
      exact ⟨ret_bool (by rw [Bool.eq_iff_iff]; simp [nameB, hq] <;> omega), rfl⟩
theorem letterB_spans (p : Int) : (inB p 97 122 || (inB p 65 90 || inB p 95 95)) = letterB p := by
  rw [Bool.eq_iff_iff]
  simp [letterB, inB]
  omega
theorem isNameStart_any (c : Int) (h0 : 0 ≤ c) (h1 : c ≤ 255) (w : World) :
    Calls Tryz.prog 180 #[.int .u8 c] w fun e w' => e = .returned (.bool (letterB c)) ∧ Below w.heap.size w w' := by
  go_enter Tryz.func180, Tryz.ntmps180
  go_wp2_with fail
  refine (isIn_any c [(97, 122), (65, 90), (95, 95)] _ _ _ rfl (by decide) (by simp) ?_).mono ?_
  · intro i hi
    match i, hi with
    | 0, _ => simp
    | 1, _ => simp
    | 2, _ => simp
  rintro e w' ⟨rfl, hb⟩
  go_wp2
  go_ret
  exact ⟨ret_bool (letterB_spans c), ((Below.refl _ _).alloc (Nat.le_refl _) _).trans (hb.mono (by simp))⟩
theorem nameB_spans (p : Int) (h : letterB p = false) : (inB p 48 57 || (inB p 45 45 || inB p 46 46)) = nameB p := by
  rw [Bool.eq_iff_iff]
  simp [nameB, inB, h]
  omega
theorem isNamePart_any (c : Int) (h0 : 0 ≤ c) (h1 : c ≤ 255) (w : World) :
    Calls Tryz.prog 181 #[.int .u8 c] w fun e w' => e = .returned (.bool (nameB c)) ∧ Below w.heap.size w w' := by
  cases hq : letterB c
  · go_enter Tryz.func181, Tryz.ntmps181
    go_wp2_with fail
    refine (isNameStart_any c h0 h1 _).mono ?_
    rintro e w1 ⟨rfl, hb⟩
    go_wp2_with fail
    refine (isIn_any c [(48, 57), (45, 45), (46, 46)] _ _ _ rfl (by decide) (by simp) ?_).mono ?_
    · intro i hi
      match i, hi with
      | 0, _ => simp
      | 1, _ => simp
      | 2, _ => simp
    rintro e w2 ⟨rfl, hb2⟩
    go_wp2
    go_ret
    exact ⟨ret_bool (nameB_spans c hq), (hb.alloc hb.size _).trans (hb2.mono (by have := hb.size; simp; omega))⟩
  · go_enter Tryz.func181, Tryz.ntmps181
    go_wp2_with fail
    refine (isNameStart_any c h0 h1 _).mono ?_
    rintro e w1 ⟨rfl, hb⟩
    go_wp2
    go_ret
    exact ⟨ret_bool (by simp [nameB, hq]), hb⟩
def isNameL (l : List UInt8) : Bool := decide (1 ≤ l.length) && decide (l.length ≤ 20) && letterB ((l[0]?.getD 0).toNat : Int) && (l.all fun c => nameB (c.toNat : Int))
set_option maxHeartbeats 400000 in
theorem specIsName_any (s : ByteArray) (hs : s.size ≤ maxLen) (w : World) :
    Calls Tryz.prog 90 #[.string s] w fun e w' => e = .returned (.bool (isNameL s.data.toList)) ∧ w' = w := by
  unfold maxLen at hs
  have hlen : s.data.toList.length = s.size := by simp
  have HL := Lib.hid hlen
  clear hlen
  by_cases h1 : s.size < 1
  · go_enter Tryz.func90, Tryz.ntmps90
    go_wp2
    go_ret
    exact ⟨ret_bool (by unfold isNameL; rw [HL.out, decide_eq_false (by omega)]; rfl), rfl⟩
  · have h1' : 0 < s.size := by omega
    by_cases h2 : s.size ≤ 20
    · cases hl : letterB (s[0].toNat : Int)
      · have HLL := Lib.hid hl
        go_enter Tryz.func90, Tryz.ntmps90
        go_wp2_with fail
        refine (l1Letter_any _ _).mono ?_
        rintro e w' ⟨rfl, rfl⟩
        go_wp2
        go_ret
        exact ⟨ret_bool (by unfold isNameL; rw [head_byte s h1', HLL.out]; simp), rfl⟩
      · have HLL := Lib.hid hl
        go_enter Tryz.func90, Tryz.ntmps90
        go_wp2_with fail
        refine (l1Letter_any _ _).mono ?_
        rintro e w' ⟨rfl, rfl⟩
        go_wp2
        clear hl
        go_loop [3] (fun i => ∃ k : Nat, k ≤ s.size ∧ i = .int .i64 k ∧ (s.data.toList.take k).all (fun c => nameB (c.toNat : Int)) = true) (fun i => s.size - (intOf i).toNat)
        case atStart => exact ⟨0, Nat.zero_le _, rfl, by simp⟩
        case round =>
          obtain ⟨k, hk, rfl, hall⟩ := hrel
          have HA := Lib.hid hall
          clear hall
          by_cases hlt : k < s.size
          · cases hb : nameB (s[k].toNat : Int)
            · have HB := Lib.hid hb
              go_wp2_with (go_at_call 115; refine (l1NameByte_any _ _).mono ?_; rintro e w' ⟨rfl, rfl⟩)
              go_ret
              refine ⟨ret_bool ?_, rfl⟩
              have hn : (s.data.toList.all fun c => nameB (c.toNat : Int)) = false := by
                rw [Bool.eq_false_iff]
                intro hc
                have := List.all_eq_true.1 hc s[k] (List.getElem_mem (by simpa using hlt))
                rw [HB.out] at this
                cases this
              unfold isNameL
              rw [hn]; simp
            · have HB := Lib.hid hb
              go_wp2_with (go_at_call 115; refine (l1NameByte_any _ _).mono ?_; rintro e w' ⟨rfl, rfl⟩)
              go_round
              case rel => exact ⟨k + 1, by omega, by go_num, by rw [all_take_succ s k hlt, HA.out, HB.out]; rfl⟩
              case measure => simp [intOf]; omega
          · obtain rfl : k = s.size := by omega
            go_wp2
            go_ret
            refine ⟨ret_bool ?_, rfl⟩
            have hall := HA.out
            rw [take_size] at hall
            unfold isNameL
            rw [hall, head_byte s h1', HLL.out, HL.out]
            simp
            omega
    · go_enter Tryz.func90, Tryz.ntmps90
      go_wp2
      go_ret
      exact ⟨ret_bool (by unfold isNameL; rw [HL.out, decide_eq_false h2]; simp), rfl⟩
set_option maxHeartbeats 400000 in
theorem implIsName_any (s : ByteArray) (hs : s.size ≤ maxLen) (w : World) :
    Calls Tryz.prog 177 #[.string s] w fun e w' => e = .returned (.bool (isNameL s.data.toList)) ∧ Below w.heap.size w w' := by
  unfold maxLen at hs
  have hlen : s.data.toList.length = s.size := by simp
  have HL := Lib.hid hlen
  clear hlen
  by_cases h1 : s.size < 1
  · go_enter Tryz.func177, Tryz.ntmps177
    go_wp2
    go_ret
    exact ⟨ret_bool (by unfold isNameL; rw [HL.out, decide_eq_false (by omega)]; rfl), Below.refl _ _⟩
  · have h1' : 0 < s.size := by omega
    by_cases h2 : s.size ≤ 20
    · have q0 : (0 : Int) ≤ (s[0].toNat : Int) := by omega
      have q1 : (s[0].toNat : Int) ≤ 255 := by have := s[0].toNat_lt; omega
      cases hl : letterB (s[0].toNat : Int)
      · have HLL := Lib.hid hl
        go_enter Tryz.func177, Tryz.ntmps177
        go_wp2_with fail
        refine (isNameStart_any _ q0 q1 _).mono ?_
        rintro e w1 ⟨rfl, hb⟩
        go_wp2
        go_ret
        exact ⟨ret_bool (by unfold isNameL; rw [head_byte s h1', HLL.out]; simp), hb⟩
      · have HLL := Lib.hid hl
        go_enter Tryz.func177, Tryz.ntmps177
        go_wp2_with fail
        refine (isNameStart_any _ q0 q1 _).mono ?_
        rintro e w1 ⟨rfl, hb⟩
        go_wp2
        clear hl
        go_loopw [3] (fun i wr => ∃ k : Nat, 1 ≤ k ∧ k ≤ s.size ∧ i = .int .i64 k ∧ (s.data.toList.take k).all (fun c => nameB (c.toNat : Int)) = true ∧ Below w.heap.size w wr) (fun i _ => s.size - (intOf i).toNat)
        case atStart =>
          refine ⟨1, Nat.le_refl _, by omega, rfl, ?_, hb⟩
          rw [all_take_succ s 0 h1']
          simp [nameB, HLL.out]
        case round =>
          obtain ⟨k, hk1, hk, rfl, hall, hbl⟩ := hrel
          have HA := Lib.hid hall
          clear hall
          by_cases hlt : k < s.size
          · have r0 : (0 : Int) ≤ (s[k].toNat : Int) := by omega
            have r1 : (s[k].toNat : Int) ≤ 255 := by have := s[k].toNat_lt; omega
            cases hb2 : nameB (s[k].toNat : Int)
            · have HB := Lib.hid hb2
              go_wp2_with fail
              refine (isNamePart_any _ r0 r1 _).mono ?_
              rintro e w2 ⟨rfl, hb3⟩
              go_wp2
              go_ret
              refine ⟨ret_bool ?_, hbl.trans (hb3.mono hbl.size)⟩
              have hn : (s.data.toList.all fun c => nameB (c.toNat : Int)) = false := by
                rw [Bool.eq_false_iff]
                intro hc
                have := List.all_eq_true.1 hc s[k] (List.getElem_mem (by simpa using hlt))
                rw [HB.out] at this
                cases this
              unfold isNameL
              rw [hn]; simp
            · have HB := Lib.hid hb2
              go_wp2_with fail
              refine (isNamePart_any _ r0 r1 _).mono ?_
              rintro e w2 ⟨rfl, hb3⟩
              go_wp2
              go_roundw
              case rel => exact ⟨k + 1, by omega, by omega, by go_num, by rw [all_take_succ s k hlt, HA.out, HB.out]; rfl, hbl.trans (hb3.mono hbl.size)⟩
              case measure => simp [intOf]; omega
          · obtain rfl : k = s.size := by omega
            go_wp2
            go_ret
            refine ⟨ret_bool ?_, hbl⟩
            have hall := HA.out
            rw [take_size] at hall
            unfold isNameL
            rw [hall, head_byte s h1', HLL.out, HL.out]
            simp
            omega
    · go_enter Tryz.func177, Tryz.ntmps177
      go_wp2
      go_ret
      exact ⟨ret_bool (by unfold isNameL; rw [HL.out, decide_eq_false h2]; simp), Below.refl _ _⟩
def isKeyL (s : ByteArray) : Bool := (isNameL s.data.toList && !(s.toList == [120, 109, 108, 110, 115])) || (s.toList == [120, 109, 108, 58, 108, 97, 110, 103])
set_option maxHeartbeats 400000 in
theorem specIsKey_any (s : ByteArray) (hs : s.size ≤ maxLen) (w : World) :
    Calls Tryz.prog 116 #[.string s] w fun e w' => e = .returned (.bool (isKeyL s)) ∧ w' = w := by
  go_enter Tryz.func116, Tryz.ntmps116
  go_wp2_with fail
  refine (specIsName_any s hs _).mono ?_
  rintro e w' ⟨rfl, rfl⟩
  go_wp2
  all_goals
    go_ret
    exact ⟨ret_bool (by unfold isKeyL; simp_all), rfl⟩
theorem isKeyL_lang (s : ByteArray) (h : s.toList = [120, 109, 108, 58, 108, 97, 110, 103]) : isKeyL s = true := by simp [isKeyL, h]
set_option maxHeartbeats 800000 in
theorem implIsKey_any (s : ByteArray) (hs : s.size ≤ maxLen) (w : World) :
    Calls Tryz.prog 182 #[.string s] w fun e w' => e = .returned (.bool (isKeyL s)) ∧ Below w.heap.size w w' := by
  by_cases h : s.toList = [120, 109, 108, 58, 108, 97, 110, 103]
  · have HK := Lib.hid (isKeyL_lang s h)
    go_enter Tryz.func182, Tryz.ntmps182
    go_wp2
    go_ret
    exact ⟨ret_bool (by rw [HK.out]), Below.refl _ _⟩
  · have HH := Lib.hid h
    go_enter Tryz.func182, Tryz.ntmps182
    go_wp2_with (go_at_call 177; refine (implIsName_any s hs _).mono ?_; rintro e w1 ⟨rfl, hb⟩)
    all_goals
      go_ret
      exact ⟨ret_bool (by unfold isKeyL; simp_all <;> rw [Bool.or_comm]), hb⟩
end Go.Proofs.YtjkmgpomcnplnaaGreatDoor
namespace Go.Proofs.YtjkmgpomcnplnaaGreatDoor
open Go.Lib
set_option linter.unusedVariables false
def badB (l : List UInt8) : Bool := decide ((decodeL l).1 = 65533 ∧ (decodeL l).2 = 1)
def strmF : Nat → List UInt8 → List (Int × Bool)
  | 0, _ => []
  | f + 1, l => if l = [] then [] else if badB l then [(0, false)] else (((decodeL l).1 : Int), true) :: strmF f (l.drop (decodeL l).2)
def strm (l : List UInt8) : List (Int × Bool) := strmF l.length l
theorem strmF_nil : ∀ f, strmF f [] = []
  | 0 => rfl
  | _ + 1 => by simp [strmF]
theorem drop_lt (l : List UInt8) (h : l ≠ []) : (l.drop (decodeL l).2).length < l.length := by
  have h1 := decodeL_width l
  have h2 : 0 < l.length := List.length_pos_iff.2 h
  rw [List.length_drop]
  omega
theorem strmF_fuel : ∀ (n m : Nat) (l : List UInt8), l.length ≤ n → l.length ≤ m → strmF n l = strmF m l
  | 0, m, l, hn, _ => by
    have : l = [] := List.eq_nil_of_length_eq_zero (by omega)
    subst this
    rw [strmF_nil, strmF_nil]
  | n + 1, 0, l, _, hm => by
    have : l = [] := List.eq_nil_of_length_eq_zero (by omega)
    subst this
    rw [strmF_nil, strmF_nil]
  | n + 1, m + 1, l, hn, hm => by
    by_cases h : l = []
    · subst h
      rw [strmF_nil, strmF_nil]
    · have := drop_lt l h
      simp only [strmF, if_neg h]
      rw [strmF_fuel n m _ (by omega) (by omega)]
theorem strm_nil : strm [] = [] := rfl
theorem strm_bad (l : List UInt8) (h : l ≠ []) (hb : badB l = true) : strm l = [(0, false)] := by
  unfold strm
  obtain ⟨k, hk⟩ : ∃ k, l.length = k + 1 := ⟨l.length - 1, by have : 0 < l.length := List.length_pos_iff.2 h; omega⟩
  rw [hk]
  simp [strmF, h, hb]
theorem strm_step (l : List UInt8) (h : l ≠ []) (hb : badB l = false) : strm l = (((decodeL l).1 : Int), true) :: strm (l.drop (decodeL l).2) := by
  have hd := drop_lt l h
  unfold strm
  obtain ⟨k, hk⟩ : ∃ k, l.length = k + 1 := ⟨l.length - 1, by have : 0 < l.length := List.length_pos_iff.2 h; omega⟩
  rw [hk]
  simp only [strmF, if_neg h, hb]
  rw [strmF_fuel k _ _ (by omega) (Nat.le_refl _)]
  rfl
theorem strm_length_le : ∀ (n : Nat) (l : List UInt8), l.length ≤ n → (strm l).length ≤ l.length
  | 0, l, h => by
    have : l = [] := List.eq_nil_of_length_eq_zero (by omega)
    subst this
    simp [strm_nil]
  | n + 1, l, h => by
    by_cases h0 : l = []
    · subst h0; simp [strm_nil]
    · have hp : 0 < l.length := List.length_pos_iff.2 h0
      cases hb : badB l
      · rw [strm_step l h0 hb, List.length_cons]
        have hd := drop_lt l h0
        have := strm_length_le n (l.drop (decodeL l).2) (by omega)
        omega
      · rw [strm_bad l h0 hb]
        simp
        omega
theorem strm_len (l : List UInt8) : (strm l).length ≤ l.length := strm_length_le _ l (Nat.le_refl _)
def pts (l : List UInt8) : Option (List Int) := if (strm l).all (·.2) then some ((strm l).map (·.1)) else none
def goodB (x : Int × Bool) : Bool := x.2 && charB x.1
def charsB (l : List UInt8) : Bool := (strm l).all goodB
def textFault (l : List UInt8) : Int := if 60 < l.length then 2 else if charsB l then 0 else 5
def ptsCode (l : List UInt8) : Int := if 4000 < l.length then 2 else if (pts l).isSome then 0 else 5
def ptsList (l : List UInt8) : List Int := if 4000 < l.length then [] else (pts l).getD []
def by' (l : List UInt8) (i : Nat) : Int := ((l.getD i 0).toNat : Int)
def leadN (b : Int) : Nat := if b < 128 then 1 else if 192 ≤ b ∧ b < 224 then 2 else if 224 ≤ b ∧ b < 240 then 3 else if 240 ≤ b ∧ b < 248 then 4 else 0
def leadP (b : Int) : Int := if b < 128 then b else if 192 ≤ b ∧ b < 224 then b - 192 else if 224 ≤ b ∧ b < 240 then b - 224 else if 240 ≤ b ∧ b < 248 then b - 240 else 0
def foldP (l : List UInt8) : Nat → Int
  | 0 => leadP (by' l 0)
  | 1 => leadP (by' l 0)
  | k + 2 => foldP l (k + 1) * 64 + by' l (k + 1) % 64
def bytesI (l : List UInt8) : List Int := l.map fun c => (c.toNat : Int)
theorem bad_lead (l : List UInt8) (h : l ≠ []) (hl : leadN (by' l 0) = 0 ∨ l.length < leadN (by' l 0)) : badB l = true := by
  have hp : 0 < l.length := List.length_pos_iff.2 h
  have k0 := (l.getD 0 0).toNat_lt
  unfold badB
  rw [decodeL_N]
  unfold leadN by' at hl
  rcases decodeN_shape l.length (l.getD 0 0).toNat (l.getD 1 0).toNat (l.getD 2 0).toNat (l.getD 3 0).toNat with ⟨c, e⟩ | ⟨c1, c2, c3, cv, e⟩ | ⟨c1, c2, c3, c4, cv, cs, e⟩ | ⟨c1, c2, c3, c4, c5, cv, cw, e⟩ | e
  · exfalso
    rw [if_pos (by omega)] at hl
    omega
  · exfalso
    rw [if_neg (by omega), if_pos (by omega)] at hl
    omega
  · exfalso
    rw [if_neg (by omega), if_neg (by omega), if_pos (by omega)] at hl
    omega
  · exfalso
    rw [if_neg (by omega), if_neg (by omega), if_neg (by omega), if_pos (by omega)] at hl
    omega
  · rw [e]
    simp
theorem dec1 (n b0 b1 b2 b3 : Nat) (h : b0 < 128) : decodeN n b0 b1 b2 b3 = (b0, 1) := by simp [decodeN, h]
theorem dec2 (n b0 b1 b2 b3 : Nat) (h : 192 ≤ b0 ∧ b0 < 224) (hn : 1 < n) (h1 : b1 < 256) :
    decodeN n b0 b1 b2 b3 = if b1 / 64 = 2 ∧ 128 ≤ b0 % 32 * 64 + b1 % 64 then (b0 % 32 * 64 + b1 % 64, 2) else (65533, 1) := by
  unfold decodeN
  repeat' split
  all_goals first | rfl | (exfalso; omega)
set_option maxRecDepth 100000 in
set_option maxHeartbeats 1000000 in
theorem dec3 (n b0 b1 b2 b3 : Nat) (h : 224 ≤ b0 ∧ b0 < 240) (hn : 2 < n) (h1 : b1 < 256) (h2 : b2 < 256) :
    decodeN n b0 b1 b2 b3 = if b1 / 64 = 2 ∧ b2 / 64 = 2 ∧ 2048 ≤ b0 % 16 * 4096 + b1 % 64 * 64 + b2 % 64 ∧ ¬ (55296 ≤ b0 % 16 * 4096 + b1 % 64 * 64 + b2 % 64 ∧ b0 % 16 * 4096 + b1 % 64 * 64 + b2 % 64 ≤ 57343) then (b0 % 16 * 4096 + b1 % 64 * 64 + b2 % 64, 3) else (65533, 1) := by
  unfold decodeN
  repeat' split
  all_goals first | rfl | (exfalso; omega)
set_option maxRecDepth 100000 in
set_option maxHeartbeats 1000000 in
theorem dec4 (n b0 b1 b2 b3 : Nat) (h : 240 ≤ b0 ∧ b0 < 248) (hn : 3 < n) (h1 : b1 < 256) (h2 : b2 < 256) (h3 : b3 < 256) :
    decodeN n b0 b1 b2 b3 = if b1 / 64 = 2 ∧ b2 / 64 = 2 ∧ b3 / 64 = 2 ∧ 65536 ≤ b0 % 8 * 262144 + b1 % 64 * 4096 + b2 % 64 * 64 + b3 % 64 ∧ b0 % 8 * 262144 + b1 % 64 * 4096 + b2 % 64 * 64 + b3 % 64 ≤ 1114111 then (b0 % 8 * 262144 + b1 % 64 * 4096 + b2 % 64 * 64 + b3 % 64, 4) else (65533, 1) := by
  unfold decodeN
  repeat' split
  all_goals first | rfl | (exfalso; omega)
theorem pointB_iff (p : Int) : pointB p = true ↔ (0 ≤ p ∧ p ≤ 1114111) ∧ ¬ (55296 ≤ p ∧ p ≤ 57343) := by
  simp [pointB, inB]
  omega
theorem enc_cases (p : Int) (h : pointB p = true) :
    (p < 128 ∧ encodeRuneZ p = [p]) ∨ (128 ≤ p ∧ p < 2048 ∧ encodeRuneZ p = [192 + p / 64, 128 + p % 64]) ∨
    (2048 ≤ p ∧ p < 65536 ∧ encodeRuneZ p = [224 + p / 4096, 128 + p / 64 % 64, 128 + p % 64]) ∨ (65536 ≤ p ∧ encodeRuneZ p = [240 + p / 262144, 128 + p / 4096 % 64, 128 + p / 64 % 64, 128 + p % 64]) := by
  have := (pointB_iff p).1 h
  by_cases c1 : p < 128
  · exact .inl ⟨c1, encodeRuneZ_one (by omega) (by omega)⟩
  · by_cases c2 : p < 2048
    · exact .inr (.inl ⟨by omega, c2, encodeRuneZ_two (by omega) (by omega)⟩)
    · by_cases c3 : p < 65536
      · exact .inr (.inr (.inl ⟨by omega, c3, encodeRuneZ_three (by omega)⟩))
      · exact .inr (.inr (.inr ⟨by omega, encodeRuneZ_four (by omega) (by omega)⟩))
def FirstOk (l : List UInt8) (n : Nat) : Prop := pointB (foldP l n) = true ∧ encodeRuneZ (foldP l n) = bytesI (l.take n)
theorem leadP_1 {b : Int} (h : b < 128) : leadP b = b := by simp [leadP, h]
theorem leadP_2 {b : Int} (h : 192 ≤ b ∧ b < 224) : leadP b = b - 192 := by
  unfold leadP
  rw [if_neg (by omega), if_pos h]
theorem leadP_3 {b : Int} (h : 224 ≤ b ∧ b < 240) : leadP b = b - 224 := by
  unfold leadP
  rw [if_neg (by omega), if_neg (by omega), if_pos h]
theorem leadP_4 {b : Int} (h : 240 ≤ b ∧ b < 248) : leadP b = b - 240 := by
  unfold leadP
  rw [if_neg (by omega), if_neg (by omega), if_neg (by omega), if_pos h]
theorem foldP_1 (l : List UInt8) : foldP l 1 = leadP (by' l 0) := rfl
theorem foldP_2 (l : List UInt8) : foldP l 2 = leadP (by' l 0) * 64 + by' l 1 % 64 := rfl
theorem foldP_3 (l : List UInt8) : foldP l 3 = (leadP (by' l 0) * 64 + by' l 1 % 64) * 64 + by' l 2 % 64 := rfl
theorem foldP_4 (l : List UInt8) : foldP l 4 = ((leadP (by' l 0) * 64 + by' l 1 % 64) * 64 + by' l 2 % 64) * 64 + by' l 3 % 64 := rfl
theorem num1 (b0 : Nat) (h : b0 < 128) : pointB (b0 : Int) = true ∧ encodeRuneZ (b0 : Int) = [(b0 : Int)] :=
  ⟨(pointB_iff _).2 (by omega), encodeRuneZ_one (by omega) (by omega)⟩
theorem num2 (b0 b1 p : Nat) (h : 192 ≤ b0 ∧ b0 < 224) (h1 : b1 < 256) (hp : p = b0 % 32 * 64 + b1 % 64) :
    (pointB (p : Int) = true ∧ encodeRuneZ (p : Int) = [(b0 : Int), (b1 : Int)]) ↔ (b1 / 64 = 2 ∧ 128 ≤ p) := by
  constructor
  · rintro ⟨a, e⟩
    rcases enc_cases _ a with ⟨c, e'⟩ | ⟨c, d, e'⟩ | ⟨c, d, e'⟩ | ⟨c, e'⟩ <;> rw [e'] at e <;> simp at e <;> omega
  · rintro ⟨a, b⟩
    refine ⟨(pointB_iff _).2 (by omega), ?_⟩
    rw [encodeRuneZ_two (by omega) (by omega)]
    simp
    omega
theorem num3 (b0 b1 b2 p : Nat) (h : 224 ≤ b0 ∧ b0 < 240) (h1 : b1 < 256) (h2 : b2 < 256) (hp : p = b0 % 16 * 4096 + b1 % 64 * 64 + b2 % 64) :
    (pointB (p : Int) = true ∧ encodeRuneZ (p : Int) = [(b0 : Int), (b1 : Int), (b2 : Int)]) ↔ (b1 / 64 = 2 ∧ b2 / 64 = 2 ∧ 2048 ≤ p ∧ ¬ (55296 ≤ p ∧ p ≤ 57343)) := by
  constructor
  · rintro ⟨a, e⟩
    have a' := (pointB_iff _).1 a
    rcases enc_cases _ a with ⟨c, e'⟩ | ⟨c, d, e'⟩ | ⟨c, d, e'⟩ | ⟨c, e'⟩ <;> rw [e'] at e <;> simp at e <;> omega
  · rintro ⟨a, b, c, d⟩
    refine ⟨(pointB_iff _).2 (by omega), ?_⟩
    rw [encodeRuneZ_three (by omega)]
    simp
    omega
theorem num4 (b0 b1 b2 b3 p : Nat) (h : 240 ≤ b0 ∧ b0 < 248) (h1 : b1 < 256) (h2 : b2 < 256) (h3 : b3 < 256) (hp : p = b0 % 8 * 262144 + b1 % 64 * 4096 + b2 % 64 * 64 + b3 % 64) :
    (pointB (p : Int) = true ∧ encodeRuneZ (p : Int) = [(b0 : Int), (b1 : Int), (b2 : Int), (b3 : Int)]) ↔ (b1 / 64 = 2 ∧ b2 / 64 = 2 ∧ b3 / 64 = 2 ∧ 65536 ≤ p ∧ p ≤ 1114111) := by
  constructor
  · rintro ⟨a, e⟩
    have a' := (pointB_iff _).1 a
    rcases enc_cases _ a with ⟨c, e'⟩ | ⟨c, d, e'⟩ | ⟨c, d, e'⟩ | ⟨c, e'⟩ <;> rw [e'] at e <;> simp at e <;> omega
  · rintro ⟨a, b, c, d, e⟩
    refine ⟨(pointB_iff _).2 (by omega), ?_⟩
    rw [encodeRuneZ_four (by omega) (by omega)]
    simp
    omega
def FirstIs (l : List UInt8) (n : Nat) : Prop := (FirstOk l n ↔ badB l = false) ∧ (badB l = false → ((decodeL l).1 : Int) = foldP l n ∧ (decodeL l).2 = n)
theorem bad_of (l : List UInt8) {c : Prop} [Decidable c] {p n : Nat} (hd : decodeL l = if c then (p, n) else (65533, 1)) (hn : c → ¬ (p = 65533 ∧ n = 1)) : badB l = false ↔ c := by
  unfold badB
  rw [hd]
  by_cases hc : c
  · rw [if_pos hc]
    have := hn hc
    simp only [decide_eq_false_iff_not]
    exact ⟨fun _ => hc, fun _ => this⟩
  · rw [if_neg hc]
    simp [hc]
theorem first_of (l : List UInt8) {c : Prop} [Decidable c] {p n : Nat} (hd : decodeL l = if c then (p, n) else (65533, 1)) (hn : c → ¬ (p = 65533 ∧ n = 1)) (hf : foldP l n = (p : Int))
    (ho : (pointB (p : Int) = true ∧ encodeRuneZ (p : Int) = bytesI (l.take n)) ↔ c) : FirstIs l n := by
  have hb := bad_of l hd hn
  refine ⟨?_, fun h => ?_⟩
  · unfold FirstOk
    rw [hf, ho, hb]
  · rw [hd, if_pos (hb.1 h), hf]
    exact ⟨rfl, rfl⟩
theorem first1 (l : List UInt8) (h : l ≠ []) (hb : by' l 0 < 128) : FirstIs l 1 := by
  have hp : 0 < l.length := List.length_pos_iff.2 h
  have hd := decodeL_N l
  have hb' : (l.getD 0 0).toNat < 128 := by unfold by' at hb; omega
  rw [dec1 _ _ _ _ _ hb'] at hd
  refine first_of (c := True) l (p := (l.getD 0 0).toNat) (by rw [hd, if_pos trivial]) (fun _ => by omega) (by rw [foldP_1, leadP_1 hb]; rfl) ?_
  rw [takeA l hp]
  exact ⟨fun _ => trivial, fun _ => num1 _ hb'⟩
theorem first2 (l : List UInt8) (hl : 2 ≤ l.length) (hb : 192 ≤ by' l 0 ∧ by' l 0 < 224) : FirstIs l 2 := by
  have k1 := (l.getD 1 0).toNat_lt
  have hd := decodeL_N l
  have hb' : 192 ≤ (l.getD 0 0).toNat ∧ (l.getD 0 0).toNat < 224 := by unfold by' at hb; omega
  rw [dec2 _ _ _ _ _ hb' (by omega) k1] at hd
  refine first_of l hd (fun _ => by omega) (by rw [foldP_2, leadP_2 hb]; unfold by'; omega) ?_
  rw [takeB l (by omega)]
  exact num2 _ _ _ hb' k1 rfl
theorem first3 (l : List UInt8) (hl : 3 ≤ l.length) (hb : 224 ≤ by' l 0 ∧ by' l 0 < 240) : FirstIs l 3 := by
  have k1 := (l.getD 1 0).toNat_lt
  have k2 := (l.getD 2 0).toNat_lt
  have hd := decodeL_N l
  have hb' : 224 ≤ (l.getD 0 0).toNat ∧ (l.getD 0 0).toNat < 240 := by unfold by' at hb; omega
  rw [dec3 _ _ _ _ _ hb' (by omega) k1 k2] at hd
  refine first_of l hd (fun _ => by omega) (by rw [foldP_3, leadP_3 hb]; unfold by'; omega) ?_
  rw [takeC l (by omega)]
  exact num3 _ _ _ _ hb' k1 k2 rfl
theorem first4 (l : List UInt8) (hl : 4 ≤ l.length) (hb : 240 ≤ by' l 0 ∧ by' l 0 < 248) : FirstIs l 4 := by
  have k1 := (l.getD 1 0).toNat_lt
  have k2 := (l.getD 2 0).toNat_lt
  have k3 := (l.getD 3 0).toNat_lt
  have hd := decodeL_N l
  have hb' : 240 ≤ (l.getD 0 0).toNat ∧ (l.getD 0 0).toNat < 248 := by unfold by' at hb; omega
  rw [dec4 _ _ _ _ _ hb' (by omega) k1 k2 k3] at hd
  refine first_of l hd (fun _ => by omega) (by rw [foldP_4, leadP_4 hb]; unfold by'; omega) ?_
  rw [takeD l (by omega)]
  exact num4 _ _ _ _ _ hb' k1 k2 k3 rfl
theorem first_is (l : List UInt8) (h : l ≠ []) (hn : leadN (by' l 0) ≠ 0) (hl : leadN (by' l 0) ≤ l.length) : FirstIs l (leadN (by' l 0)) := by
  by_cases a1 : by' l 0 < 128
  · have e : leadN (by' l 0) = 1 := by simp [leadN, a1]
    rw [e]
    exact first1 l h a1
  · by_cases a2 : 192 ≤ by' l 0 ∧ by' l 0 < 224
    · have e : leadN (by' l 0) = 2 := by unfold leadN; rw [if_neg a1, if_pos a2]
      rw [e] at hl ⊢
      exact first2 l hl a2
    · by_cases a3 : 224 ≤ by' l 0 ∧ by' l 0 < 240
      · have e : leadN (by' l 0) = 3 := by unfold leadN; rw [if_neg a1, if_neg a2, if_pos a3]
        rw [e] at hl ⊢
        exact first3 l hl a3
      · by_cases a4 : 240 ≤ by' l 0 ∧ by' l 0 < 248
        · have e : leadN (by' l 0) = 4 := by unfold leadN; rw [if_neg a1, if_neg a2, if_neg a3, if_pos a4]
          rw [e] at hl ⊢
          exact first4 l hl a4
        · exact absurd (by unfold leadN; rw [if_neg a1, if_neg a2, if_neg a3, if_neg a4]) hn
theorem ofNums_inj : ∀ (xs : List Int) (l : List UInt8), (∀ x ∈ xs, 0 ≤ x ∧ x < 256) → (xs.map (fun n => UInt8.ofNat n.toNat) = l ↔ xs = bytesI l)
  | [], [], _ => by simp [bytesI]
  | [], _ :: _, _ => by simp [bytesI]
  | _ :: _, [], _ => by simp [bytesI]
  | x :: xs, c :: l, h => by
    have hx := h x (by simp)
    have ih := ofNums_inj xs l (fun y hy => h y (by simp [hy]))
    unfold bytesI at ih ⊢
    simp only [List.map_cons, List.cons.injEq]
    rw [ih]
    refine and_congr_left fun _ => ?_
    constructor
    · intro e
      have e2 := congrArg UInt8.toNat e
      simp at e2
      omega
    · intro e
      subst e
      simp
theorem str_test (s : ByteArray) (k : Nat) (p : Int) : ((strOfNums (encodeRuneZ p)).toList == (s.extract 0 k).toList) = decide (encodeRuneZ p = bytesI (s.data.toList.take k)) := by
  rw [ByteArray.toList_eq, ByteArray.toList_eq, strOfNums_data, Lib.extract_data, List.drop_zero, Nat.sub_zero]
  rw [Bool.eq_iff_iff, beq_iff_eq, decide_eq_true_iff]
  exact ofNums_inj _ _ (encodeRuneZ_byte p)
theorem first_test (s : ByteArray) (k : Nat) (p : Int) (hp : foldP s.data.toList k = p) (h : FirstIs s.data.toList k) (hq : pointB p = true) :
    ((strOfNums (encodeRuneZ p)).toList == (s.extract 0 k).toList) = !badB s.data.toList := by
  rw [str_test]
  have h1 := h.1
  unfold FirstOk at h1
  rw [hp] at h1
  rw [Bool.eq_iff_iff, decide_eq_true_iff]
  simp only [hq, true_and] at h1
  rw [h1]
  simp
theorem first_not (l : List UInt8) (k : Nat) (p : Int) (hp : foldP l k = p) (h : FirstIs l k) (hq : pointB p = false) : badB l = true := by
  have h1 := h.1
  unfold FirstOk at h1
  rw [hp, hq] at h1
  simp at h1
  exact h1
end Go.Proofs.YtjkmgpomcnplnaaGreatDoor
