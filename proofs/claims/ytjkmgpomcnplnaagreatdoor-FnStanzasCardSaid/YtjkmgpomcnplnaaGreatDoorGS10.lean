/- The laws' draws of bent trees. -/
import Derived.Test.YtjkmgpomcnplnaaGreatDoorGS5
namespace Go.Proofs.YtjkmgpomcnplnaaGreatDoor
open Go.ChangeShapes Go.WideShapes Go.ChangeAt Go.RowKit
set_option linter.unusedVariables false
theorem zero_cells : (Value.agg #[.int .i64 0, .string ByteArray.empty, .string ByteArray.empty, .string ByteArray.empty, .slice none 0 0]).cells = #[.int .i64 0, .string ByteArray.empty, .string ByteArray.empty, .string ByteArray.empty, .slice none 0 0] := by rfl
theorem zeros_at (k : Nat) : ∀ i q, i < k → q < 5 → (Builtin.zeroCells (Value.agg #[.int .i64 0, .string ByteArray.empty, .string ByteArray.empty, .string ByteArray.empty, .slice none 0 0]).cells k).toList[i * 5 + q]? = some (if q = 0 then .int .i64 0 else if q = 1 then .string ByteArray.empty else if q = 2 then .string ByteArray.empty else if q = 3 then .string ByteArray.empty else .slice none 0 0) := by
  intro i q hi hq
  rw [zero_cells]
  unfold Builtin.zeroCells
  have hsz : (#[.int .i64 0, .string ByteArray.empty, .string ByteArray.empty, .string ByteArray.empty, .slice none 0 0] : Array Value).size = 5 := rfl
  rw [Array.getElem?_toList, Array.getElem?_map, hsz, Array.getElem?_range, if_pos (by omega)]
  simp only [Option.map_some]
  rw [show (i * 5 + q) % 5 = q by omega]
  rcases q with _ | _ | _ | _ | _ | q
  · rfl
  · rfl
  · rfl
  · rfl
  · rfl
  · omega
theorem zeros_one (k : Nat) : ∀ u ∈ (Builtin.zeroCells (Value.agg #[.int .i64 0, .string ByteArray.empty, .string ByteArray.empty, .string ByteArray.empty, .slice none 0 0]).cells k).toList, u.oneCell' = true := by
  intro u hu
  obtain ⟨j, hj, rfl⟩ := List.getElem_of_mem hu
  have hl : (Builtin.zeroCells (Value.agg #[.int .i64 0, .string ByteArray.empty, .string ByteArray.empty, .string ByteArray.empty, .slice none 0 0]).cells k).toList.length = k * 5 := by rw [Array.length_toList, size_zeroCells, zero_cells]; rfl
  have h := zeros_at k (j / 5) (j % 5) (by omega) (by omega)
  rw [show j / 5 * 5 + j % 5 = j by omega, List.getElem?_eq_getElem hj] at h
  rw [Option.some.inj h]
  repeat' split
  all_goals rfl
def lenOfV : Value → Nat
  | .slice _ n _ => n
  | _ => 0
theorem bent_end {w w3 W : World} {b x : Nat} (h : w.grownBy w3 (some b)) (hx : w.heap.size ≤ x) (hg : w3.grownBy W (some x)) : w.grownBy W (some b) := grown_mix h hg (fun g e => by cases e; exact hx)
theorem GrowIts.bentOwn {W : World} {B : Nat} {a : Option Addr} {n c : Nat} {l : List It} {A : Nat → Option Addr} {N C : Nat → Nat} (h : GrowIts W B (.slice a n c) n l A N C) (hb : BentIts l) : OwnIts W B W.heap.size a n c l :=
  h.own (by have := hb.1; have := h.len; omega) (fun i _ => by have := hb.2 i; exact ⟨⟨by have := this.depth; omega, by have := this.depth; omega⟩, by have := this.sizes; omega, by have := this.sizes; omega, by have := this.sizes; omega⟩)
theorem its_field_o {w : World} {B g m c : Nat} {l : List It} {A : Nat → Option Addr} {N C : Nat → Nat} (h : GrowR w B (.slice (some ⟨g, 0, none⟩) m c) m l A N C) (hl : BentIts l) {r f : Nat} (hr : r < m) (hf : f < 4) {y : It} (hb : BentIt y)
    {u : Value} (hu : u = if f = 0 then .int .i64 y.depth else if f = 1 then .string y.text else if f = 2 then .string y.space else .string y.name)
    (h0 : f = 0 ∨ y.depth = (l.getD r dIt).depth) (h1 : f = 1 ∨ y.text = (l.getD r dIt).text) (h2 : f = 2 ∨ y.space = (l.getD r dIt).space) (h3 : f = 3 ∨ y.name = (l.getD r dIt).name) (h4 : y.attrs = (l.getD r dIt).attrs) :
    OwnIts (w.setCell ⟨g, r * 5 + f, none⟩ u) B (w.setCell ⟨g, r * 5 + f, none⟩ u).heap.size (some ⟨g, 0, none⟩) m c (l.set r y) ∧ BentIts (l.set r y) :=
  ⟨(h.g.put hr hf hu h0 h1 h2 h3 h4).bentOwn (bent_set hl hb), bent_set hl hb⟩
theorem flatI_setA {l : List It} {A : Nat → Option Addr} {N C : Nat → Nat} {r : Nat} (hr : r < l.length) {y : It} (a : Option Addr) (n cc : Nat)
    (h0 : y.depth = (l.getD r dIt).depth) (h1 : y.text = (l.getD r dIt).text) (h2 : y.space = (l.getD r dIt).space) (h3 : y.name = (l.getD r dIt).name) : (flatI l A N C).set (r * 5 + 4) (.slice a n cc) = flatI (l.set r y) (putA r a A) (putA r n N) (putA r cc C) := by
  apply List.ext_getElem?
  intro j
  have hl : (l.set r y).length = l.length := List.length_set ..
  by_cases hj : j < l.length * 5
  · rw [flatI_get _ _ _ _ _ (by rw [hl]; exact hj), List.getElem?_set]
    have g : (l.set r y).getD r dIt = y := by rw [List.getD_eq_getElem?_getD, List.getElem?_set, if_pos rfl, if_pos hr]; rfl
    by_cases e : r * 5 + 4 = j
    · subst e
      rw [if_pos rfl, if_pos (by rw [flatI_length]; exact hj), cellI_five r 4 (by omega)]
      unfold putA
      simp
    · rw [if_neg e, flatI_get _ _ _ _ _ hj]
      obtain ⟨i, q, hq, rfl⟩ : ∃ i q, q < 5 ∧ j = i * 5 + q := ⟨j / 5, j % 5, by omega, by omega⟩
      rw [cellI_five i q hq, cellI_five i q hq]
      by_cases ei : i = r
      · subst ei
        rw [g]
        rcases q with _ | _ | _ | _ | _ | q
        · rw [h0]; rfl
        · rw [h1]; rfl
        · rw [h2]; rfl
        · rw [h3]; rfl
        · omega
        · omega
      · have g : (l.set r y).getD i dIt = l.getD i dIt := by rw [List.getD_eq_getElem?_getD, List.getElem?_set, if_neg (fun e => ei e.symm), ← List.getD_eq_getElem?_getD]
        rw [g]
        unfold putA
        rw [if_neg ei, if_neg ei, if_neg ei]
  · rw [List.getElem?_eq_none (by rw [List.length_set, flatI_length]; omega), List.getElem?_eq_none (by rw [flatI_length, hl]; omega)]
theorem its_attrs_o {w w1 w2 : World} {B g m c : Nat} {l : List It} {A : Nat → Option Addr} {N C : Nat → Nat} (h : GrowR w B (.slice (some ⟨g, 0, none⟩) m c) m l A N C) (hl : BentIts l) {r : Nat} (hr : r < m)
    (hb1 : Below w.heap.size w w1) {row : Option Nat} (hg : w1.grownBy w2 row) (hrow : ∀ j, row = some j → (Value.slice (A r) (N r) (C r)).ownBlock = some j)
    {a : Option Addr} {n cc : Nat} {es : List At} (hown : w2.ownsRow B 52 2 (.slice a n cc) n (flatA es)) (hne : ∀ j, (Value.slice a n cc).ownBlock = some j → j ≠ g) (hn : n ≤ 6) (hes : ShortAts es)
    (hat : (Value.slice a n cc).ownBlock = (Value.slice (A r) (N r) (C r)).ownBlock ∨ ∃ j, (Value.slice a n cc).ownBlock = some j ∧ w.heap.size ≤ j) :
    OwnIts (w2.setCell ⟨g, r * 5 + 4, none⟩ (.slice a n cc)) B (w2.setCell ⟨g, r * 5 + 4, none⟩ (.slice a n cc)).heap.size (some ⟨g, 0, none⟩) m c (l.set r ⟨(l.getD r dIt).depth, (l.getD r dIt).text, (l.getD r dIt).space, (l.getD r dIt).name, es⟩) ∧ BentIts (l.set r ⟨(l.getD r dIt).depth, (l.getD r dIt).text, (l.getD r dIt).space, (l.getD r dIt).name, es⟩) := by
  have hlen := h.g.len
  have hgl := (h.g.row.lt g rfl).2
  have ho : Only (fun i => (Value.slice (A r) (N r) (C r)).ownBlock = some i) w w2 := (Only.below hb1).trans ((Only.grown hg).mono fun i e => hrow i e.symm)
  have hats := ownAts_of hown (by omega) (fun i => by have := hes i; omega)
  have hbr := hl.2 r
  have hel : es.length = n := hats.ats.len
  have hbent : BentIts (l.set r ⟨(l.getD r dIt).depth, (l.getD r dIt).text, (l.getD r dIt).space, (l.getD r dIt).name, es⟩) := bent_set hl ⟨hbr.depth, hbr.sizes, by simp only; omega, hes⟩
  have hrow2 := owns_only h.g.row ho (fun q hq hp => by
    have : q = g := by simpa [Value.ownBlock] using hq.symm
    subst this
    exact h.off r (by omega) q hp rfl)
  have hst := hrow2.stored (r * 5 + 4) (.slice a n cc)
  rw [flatI_setA (y := ⟨(l.getD r dIt).depth, (l.getD r dIt).text, (l.getD r dIt).space, (l.getD r dIt).name, es⟩) (by omega) a n cc rfl rfl rfl rfl] at hst
  have hos := Only.grown hst.2
  have hlt0 : ∀ i, i < m → ∀ x, A i = some x → N i ≠ 0 → x.block < w.heap.size := fun i hi x hx hne => ((h.g.ats i (by omega)).1.in hx hne).2
  have hsz := hst.2.size
  have hs2 := ho.size
  have hblk : ∀ (a : Option Addr) (n cc : Nat) (x : Addr), a = some x → (Value.slice a n cc).ownBlock = some x.block := fun a n cc x e => by subst e; rfl
  refine ⟨(⟨hst.1, fun i hi => ?_, fun i hi x hx hxn => ?_, fun i j hi hj hij x y hx hy hxn hyn => ?_⟩ : GrowIts (w2.setCell ⟨g, r * 5 + 4, none⟩ (.slice a n cc)) B (.slice (some ⟨g, 0, none⟩) m c) m (l.set r ⟨(l.getD r dIt).depth, (l.getD r dIt).text, (l.getD r dIt).space, (l.getD r dIt).name, es⟩) (putA r a A) (putA r n N) (putA r cc C)).bentOwn hbent, hbent⟩
  · rw [List.length_set] at hi
    unfold putA
    by_cases e : i = r
    · subst e
      have hx : (l.set i ⟨(l.getD i dIt).depth, (l.getD i dIt).text, (l.getD i dIt).space, (l.getD i dIt).name, es⟩).getD i dIt = ⟨(l.getD i dIt).depth, (l.getD i dIt).text, (l.getD i dIt).space, (l.getD i dIt).name, es⟩ := by rw [List.getD_eq_getElem?_getD, List.getElem?_set_self (by omega)]; rfl
      rw [if_pos rfl, if_pos rfl, if_pos rfl, hx]
      have h1 := hats.only hos fun x hx hxn hp => hne x.block (hblk _ _ _ _ hx) (by simpa using hp)
      refine ⟨⟨h1.ats, h1.own.imp id fun ⟨b, g1, g2, g3, g4⟩ => ⟨b, g1, g2, by omega, g4⟩⟩, fun e => ?_⟩
      subst e
      rcases hown.2 with ⟨hv, _⟩ | ⟨g', cap, cur, hv, _⟩
      · simp only [Value.slice.injEq] at hv; exact hv.2.2
      · cases hv
    · have hx : (l.set r ⟨(l.getD r dIt).depth, (l.getD r dIt).text, (l.getD r dIt).space, (l.getD r dIt).name, es⟩).getD i dIt = l.getD i dIt := by rw [List.getD_eq_getElem?_getD, List.getElem?_set_ne (by omega), ← List.getD_eq_getElem?_getD]
      rw [if_neg e, if_neg e, if_neg e, hx]
      have h0 := (h.g.ats i hi).1.only ho fun x hx hxn hp => h.each i r hi (by omega) e _ (hblk _ _ _ _ hx) hp
      have h1 := h0.only hos fun x hx hxn hp => h.g.apart i hi x hx hxn (by simp only [Option.some.injEq] at hp; simp [Value.ownBlock, hp])
      exact ⟨⟨h1.ats, h1.own.imp id fun ⟨b, g1, g2, g3, g4⟩ => ⟨b, g1, g2, by omega, g4⟩⟩, (h.g.ats i hi).2⟩
  · rw [List.length_set] at hi
    unfold putA at hx hxn
    by_cases e : i = r
    · rw [if_pos e] at hx hxn
      intro hq
      exact hne x.block (hblk _ _ _ _ hx) (by simpa [Value.ownBlock] using hq.symm)
    · rw [if_neg e] at hx hxn
      exact h.g.apart i hi x hx hxn
  · rw [List.length_set] at hi hj
    unfold putA at hx hy hxn hyn
    have key : ∀ j, j < m → j ≠ r → ∀ x y, a = some x → A j = some y → n ≠ 0 → N j ≠ 0 → x.block ≠ y.block := fun j hj hjr x y hx hy hxn hyn he => by
      have h1 := hblk a n cc x hx
      have h2 := hblk (A j) (N j) (C j) y hy
      rcases hat with e | ⟨q, e, hq⟩
      · rw [h1] at e
        exact h.each r j (by omega) (by omega) (fun e => hjr e.symm) x.block e.symm (by rw [h2, he])
      · rw [h1] at e
        have := hlt0 j hj y hy hyn
        simp only [Option.some.injEq] at e
        omega
    by_cases e : i = r
    · rw [if_pos e] at hx hxn
      rw [if_neg (by omega)] at hy hyn
      exact key j (by omega) (by omega) x y hx hy hxn hyn
    · rw [if_neg e] at hx hxn
      by_cases e2 : j = r
      · rw [if_pos e2] at hy hyn
        exact fun he => key i (by omega) e y x hy hx hyn hxn he.symm
      · rw [if_neg e2] at hy hyn
        exact h.g.each i j hi hj hij x y hx hy hxn hyn
theorem zeros_flat (k : Nat) {zs : List Value} (hlen : zs.length = k * 5)
    (hzs : ∀ i q, i < k → q < 5 → zs[i * 5 + q]? = some (if q = 0 then .int .i64 0 else if q = 1 then .string ByteArray.empty else if q = 2 then .string ByteArray.empty else if q = 3 then .string ByteArray.empty else .slice none 0 0)) :
    zs = flatI (List.replicate k dIt) (fun _ => none) (fun _ => 0) (fun _ => 0) := by
  apply List.ext_getElem?
  intro j
  by_cases hj : j < k * 5
  · obtain ⟨i, q, hq, rfl⟩ : ∃ i q, q < 5 ∧ j = i * 5 + q := ⟨j / 5, j % 5, by omega, by omega⟩
    have hg : (List.replicate k dIt).getD i dIt = dIt := by rw [List.getD_eq_getElem?_getD, List.getElem?_replicate]; split <;> rfl
    rw [hzs i q (by omega) hq, flatI_get _ _ _ _ _ (by rw [List.length_replicate]; exact hj), cellI_five i q hq, hg]
    rfl
  · rw [List.getElem?_eq_none (by omega), List.getElem?_eq_none (by rw [flatI_length, List.length_replicate]; omega)]
theorem grow_more {w w2 : World} {B n k : Nat} {v v' : Value} {l : List It} {A : Nat → Option Addr} {N C : Nat → Nat} (h : GrowIts w B v n l A N C) {zs : List Value}
    (hzs : ∀ i q, i < k → q < 5 → zs[i * 5 + q]? = some (if q = 0 then .int .i64 0 else if q = 1 then .string ByteArray.empty else if q = 2 then .string ByteArray.empty else if q = 3 then .string ByteArray.empty else .slice none 0 0)) (hB : B ≤ w.heap.size)
    (hr : w2.ownsRow B 54 5 v' (n + k) (flatI l A N C ++ zs)) (hg : w.grownBy w2 v.ownBlock) (hv : v'.ownBlock = v.ownBlock ∨ v'.ownBlock = some w.heap.size) :
    GrowIts w2 B v' (n + k) (l ++ List.replicate k dIt) (joinA l.length A (fun _ => none)) (joinA l.length N (fun _ => 0)) (joinA l.length C (fun _ => 0)) := by
  have hlen := h.len
  have hz : zs.length = k * 5 := by
    have := hr.1
    rw [List.length_append, flatI_length, hlen, Nat.add_mul] at this
    omega
  rw [zeros_flat k hz hzs] at hr
  exact h.joinO (B2 := B) (l2 := List.replicate k dIt) (by rw [List.length_replicate]) (fun i hi => ⟨by
    have hg : (List.replicate k dIt).getD i dIt = dIt := by rw [List.getD_eq_getElem?_getD, List.getElem?_replicate]; split <;> rfl
    rw [hg]
    exact noAts0 _ _ _, fun _ => rfl⟩) (fun i j hi hj hij x y hx => by cases hx) (Nat.le_refl _) (Nat.le_refl _) hB hr hg (hv.imp id fun e => ⟨_, e, Nat.le_refl _⟩)
theorem more_bent {l : List It} (h : BentIts l) {k : Nat} (hk : l.length + k ≤ 100) : BentIts (l ++ List.replicate k dIt) := ⟨by rw [List.length_append, List.length_replicate]; exact hk, fun i => by
  rw [List.getD_eq_getElem?_getD]
  by_cases hi : i < l.length
  · rw [List.getElem?_append_left hi, ← List.getD_eq_getElem?_getD]
    exact h.2 i
  · rw [List.getElem?_append_right (by omega), List.getElem?_replicate]
    split <;> exact dIt_drawn.bent⟩
theorem its_more_o {w w2 : World} {B g m c k : Nat} {l : List It} {A : Nat → Option Addr} {N C : Nat → Nat} (h : GrowR w B (.slice (some ⟨g, 0, none⟩) m c) m l A N C) (hl : BentIts l) (hk : m + k ≤ 100) {zs : List Value}
    (hzs : ∀ i q, i < k → q < 5 → zs[i * 5 + q]? = some (if q = 0 then .int .i64 0 else if q = 1 then .string ByteArray.empty else if q = 2 then .string ByteArray.empty else if q = 3 then .string ByteArray.empty else .slice none 0 0))
    {a : Option Addr} {q' : Nat} (hown : w2.ownsRow B 54 5 (.slice a (m + k) q') (m + k) (flatI l A N C ++ zs)) (hg : w.grownBy w2 (some g)) (hB : B ≤ w.heap.size) (hat : (Value.slice a (m + k) q').ownBlock = some g ∨ (Value.slice a (m + k) q').ownBlock = some w.heap.size) :
    OwnIts w2 B w2.heap.size a (m + k) q' (l ++ List.replicate k dIt) ∧ BentIts (l ++ List.replicate k dIt) := by
  have hb := more_bent (k := k) hl (by have := h.g.len; omega)
  exact ⟨(grow_more h.g hzs hB hown hg hat).bentOwn hb, hb⟩
end Go.Proofs.YtjkmgpomcnplnaaGreatDoor
