/- Texts laid together, part 10. -/
import Derived.Test.YtbfjhjkllaceaaaGreatDoorGB9
import Derived.Lib.AppendZerosOnto

/- What a bent tree wants: an append of noughts, a store into one item. -/
namespace Go.Proofs.YtbfjhjkllaceaaaGreatDoor
open Go.ChangeShapes Go.WideShapes Go.ChangeAt Go.RowKit
set_option linter.unusedVariables false

/-- an append of k noughts to a row of one's own that holds something -/
theorem run_append_own_zeros {P : Program} (w : World) (base : Nat) (t tn ty e : TypeId) (i : TypeInfo) (z : Value) (size bytes : Nat) (kq kn : IntKind) (ht : P.underlying t = some (.slice e)) (htn : P.underlying tn = some (.int kn)) (hi : P.info? e = some i) (hz : i.zero = some z)
    (hsize : i.size = size) (hby : i.bytes = bytes) (hzs : z.cells.size = size) (hsz : 0 < size)
    (v : Value) (n : Nat) (xs : List Value) (hown : w.ownsRow base e size v n xs) (hn0 : 0 < n)
    (k : Nat) (h0 : 0 < k) (h1 : ∀ u ∈ (Builtin.zeroCells z.cells k).toList, u.oneCell' = true)
    (h63 : n + k ≤ maxLen) (hbytes : (n + k) * bytes ≤ 140737488355328) (hbase : base ≤ w.heap.size) :
    ∃ v' w', (Builtin.append_ #[t, tn] ty #[v, .int kq k]).run P w = .ok v' w' ∧ w'.ownsRow base e size v' (n + k) (xs ++ (Builtin.zeroCells z.cells k).toList) ∧ w.grownBy w' v.ownBlock ∧
      (v'.ownBlock = v.ownBlock ∨ v'.ownBlock = some w.heap.size) := by
  subst hsize
  subst hby
  have hsmall : n + k ≤ 9223372036854775807 := by simp only [maxLen] at h63; omega
  have hl : (Builtin.zeroCells z.cells k).toList.length = k * i.size := by rw [Array.length_toList, size_zeroCells, hzs]
  have hlen : (xs ++ (Builtin.zeroCells z.cells k).toList).length = (n + k) * i.size := by rw [List.length_append, hown.1, hl, Nat.add_mul]
  rcases hown.2 with ⟨rfl, hn⟩ | ⟨g, cap, cur, rfl, hbg, hg, hnc, hcm, hcs, htake⟩
  · omega
  · by_cases hroom : n + k ≤ cap
    · have hfit : n * i.size + (Builtin.zeroCells z.cells k).toList.length ≤ cur.size := by rw [hl, hcs, ← Nat.add_mul]; exact Nat.mul_le_mul_right _ hroom
      have hst := run_storeCells_at P g (n * i.size) e (Builtin.zeroCells z.cells k).toList 0 cur w hg (by simpa using hfit) h1
      simp only [Nat.add_zero] at hst
      have hw : IntKind.i64.wrap (k : Int) = k := by rw [IntKind.wrap_i64]; omega
      have hneg : ¬ ((k : Int) < 0) := by omega
      have hns : ¬ (k * i.size = 0) := Nat.mul_ne_zero (by omega) (by omega)
      have hk8 : k * i.bytes ≤ 140737488355328 := Nat.le_trans (Nat.mul_le_mul_right _ (by omega)) hbytes
      have h48i : ¬ (281474976710656 < (k : Int) * (i.bytes : Int)) := by
        rw [← Int.natCast_mul]
        omega
      have hr : (Builtin.append_ #[t, tn] ty #[.slice (some ⟨g, 0, none⟩) n cap, .int kq k]).run P w = .ok (.slice (some ⟨g, 0, none⟩) (n + k) cap) (w.setRow g (cur.toList.take (n * i.size) ++ (Builtin.zeroCells z.cells k).toList ++ cur.toList.drop (n * i.size + (Builtin.zeroCells z.cells k).toList.length)).toArray) := by
        simp [Builtin.append_, run_underlying ht, run_underlying htn, sizeOf, typeInfo, zeroValue, hi, hz, asInt, asIntOf, hw, hneg, hns, h48i, hroom, Addr.add_lit, hst]
      refine ⟨_, _, hr, ⟨hlen, .inr ⟨g, cap, _, rfl, hbg, setRow_heap w g cur _ e _ hg, hroom, hcm, ?_, ?_⟩⟩, ⟨rfl, rfl, rfl, by simp, fun k _ hk => setRow_other w g k _ (fun e => hk (by simp [Value.ownBlock, e]))⟩, Or.inl rfl⟩
      · simp only [List.size_toArray, List.length_append, List.length_take, List.length_drop, Array.length_toList] at hfit ⊢
        omega
      · rw [htake, ← hlen]
        exact List.take_left
    · have holds : ∀ j u, xs[j]? = some u → w.cell? ((⟨g, 0, none⟩ : Addr).add j) = some u := hown.cells (g := g) rfl
      have hold : (Builtin.firstCells i.size n (.slice (some ⟨g, 0, none⟩) n cap)).run P w.drew = .ok xs.toArray w.drew := run_firstCells_some (P := P) w.drew i.size n ⟨g, 0, none⟩ n cap xs hown.1 holds
      have hk8 : k * i.bytes ≤ 140737488355328 := Nat.le_trans (Nat.mul_le_mul_right _ (by omega)) hbytes
      have hr := Lib.run_append_grow_zeros (P := P) w t tn ty e i z kq kn ht htn hi hz (some ⟨g, 0, none⟩) n cap xs hold k h0 hsz (by omega) (by omega) (by omega) (growslice_fits (by omega) hbytes)
      have hge := grownCap_ge w (n + k) cap e
      have hcm2 : grownCap w (n + k) cap e ≤ maxLen := grownCap_le_maxLen w (n + k) cap e h63
      refine ⟨_, _, hr, ⟨hlen, .inr ⟨w.heap.size, _, _, rfl, hbase, heap_alloc_new w.drew _, hge, hcm2, ?_, ?_⟩⟩, ⟨rfl, rfl, rfl, by simp, fun j hj _ => heap_alloc_old w.drew _ hj⟩, Or.inr rfl⟩
      · simp only [Array.size_append, List.size_toArray, size_zeroCells, hzs, hown.1, ← Nat.add_mul]
        congr 1
        omega
      · simp only [Array.toList_append, List.append_assoc]
        rw [← List.append_assoc, ← hlen]
        exact List.take_left
theorem wpList_append_zeros {P : Program} (w : World) {ops : Array Oper} {rest : List Oper} {o : Oper} {a : Act} {Q : Exit → Act → World → Prop} (hgd : o.guard = none) (s x : Operand) (t tn : TypeId)
    (ho : o.op = .call { callee := .builtin .append, args := #[s, x], argTypes := #[t, tn] })
    (base : Nat) (e : TypeId) (i : TypeInfo) (z : Value) (size bytes : Nat) (kq kn : IntKind) (ht : P.underlying t = some (.slice e)) (htn : P.underlying tn = some (.int kn)) (hi : P.info? e = some i) (hz : i.zero = some z)
    (hsize : i.size = size) (hby : i.bytes = bytes) (hzs : z.cells.size = size) (hsz : 0 < size)
    (v : Value) (n : Nat) (xs : List Value) (hs : a.eval s = v) (hown : w.ownsRow base e size v n xs) (hn0 : 0 < n)
    (k : Nat) (hx : a.eval x = .int kq k) (h0 : 0 < k) (h1 : ∀ u ∈ (Builtin.zeroCells z.cells k).toList, u.oneCell' = true)
    (h63 : n + k ≤ maxLen) (hbytes : (n + k) * bytes ≤ 140737488355328) (hbase : base ≤ w.heap.size)
    (h : ∀ v' w', w'.ownsRow base e size v' (n + k) (xs ++ (Builtin.zeroCells z.cells k).toList) → w.grownBy w' v.ownBlock → (v'.ownBlock = v.ownBlock ∨ v'.ownBlock = some w.heap.size) → wpList P ops Q rest (a.put o.dst v') w') :
    wpList P ops Q (o :: rest) a w := by
  obtain ⟨v', w', hr, h2, h3, h4⟩ := run_append_own_zeros (P := P) w base t tn o.type e i z size bytes kq kn ht htn hi hz hsize hby hzs hsz v n xs hown hn0 k h0 h1 h63 hbytes hbase
  exact Lib.wpList_append_run w hgd s x t tn ho v (.int kq k) hs hx v' w' hr (h v' w' h2 h3 h4)


/-- the cells of an item in a row -/
theorem cellI_at {l : List It} {A : Nat → Option Addr} {N C : Nat → Nat} (i q : Nat) (hq : q < 5) :
    cellI l A N C (i * 5 + q) = if q = 0 then .int .i64 (l.getD i dIt).depth else if q = 1 then .string (l.getD i dIt).text else if q = 2 then .string (l.getD i dIt).space else if q = 3 then .string (l.getD i dIt).name else .slice (A i) (N i) (C i) := by
  unfold cellI
  rw [show (i * 5 + q) % 5 = q by omega, show (i * 5 + q) / 5 = i by omega]
theorem GrowR.cellAt {w : World} {B g n c : Nat} {l : List It} {A : Nat → Option Addr} {N C : Nat → Nat} (h : GrowR w B (.slice (some ⟨g, 0, none⟩) n c) n l A N C) (i q : Nat) (hi : i < n) (hq : q < 5) : w.cell? ⟨g, i * 5 + q, none⟩ = some (cellI l A N C (i * 5 + q)) := by
  have hlen := h.g.len
  rw [h.g.row.cellAt _ (by omega), flatI_get _ _ _ _ _ (by omega)]
theorem it_of_cells {W : World} {g i : Nat} {y : It} {a : Option Addr} {n c : Nat} (hlt : g < W.heap.size) (hy : DrawnIt y ∨ (-1 ≤ y.depth ∧ y.depth ≤ 7 ∧ y.text.size ≤ 60 ∧ y.space.size ≤ 60 ∧ y.name.size ≤ 60))
    (hc : ∀ q, q < 5 → W.cell? ⟨g, i * 5 + q, none⟩ = some (if q = 0 then .int .i64 y.depth else if q = 1 then .string y.text else if q = 2 then .string y.space else if q = 3 then .string y.name else .slice a n c)) (ha : AtsAt W a n c y.attrs) : ItAt W g (i * 5) y := by
  have hb : -1 ≤ y.depth ∧ y.depth ≤ 7 ∧ y.text.size ≤ 60 ∧ y.space.size ≤ 60 ∧ y.name.size ≤ 60 := hy.elim (fun h => ⟨by have := h.depth; omega, by have := h.depth; omega, h.sizes.1, h.sizes.2.1, h.sizes.2.2⟩) id
  exact ⟨hlt, ⟨by omega, by omega⟩, ⟨by omega, by omega, by omega⟩, hc 0 (by omega), hc 1 (by omega), hc 2 (by omega), hc 3 (by omega), a, n, c, hc 4 (by omega), ha⟩
/-- a small item, as it is bent -/
structure BentIt (x : It) : Prop where
  depth : -1 ≤ x.depth ∧ x.depth ≤ 7
  sizes : x.text.size ≤ 60 ∧ x.space.size ≤ 60 ∧ x.name.size ≤ 60
  few : x.attrs.length ≤ 6
  short : ShortAts x.attrs
theorem DrawnIt.bent {x : It} (h : DrawnIt x) : BentIt x := ⟨by have := h.depth; omega, h.sizes, by have := h.few; omega, h.short⟩
theorem BentIt.small {x : It} (h : BentIt x) : SmallIt x := ⟨by have := h.sizes; omega, by have := h.few; omega, fun i hi => by have := h.short i; unfold SmallAt; omega⟩
/-- the tree that is handed back -/
def BentIts (l : List It) : Prop := l.length ≤ 100 ∧ ∀ i, BentIt (l.getD i dIt)
theorem BentIts.small {l : List It} (h : BentIts l) : SmallIts l := ⟨by have := h.1; omega, fun i hi => (h.2 i).small⟩
theorem bent_set {l : List It} (h : BentIts l) {r : Nat} {y : It} (hy : BentIt y) : BentIts (l.set r y) := by
  refine ⟨by rw [List.length_set]; exact h.1, fun i => ?_⟩
  rw [List.getD_eq_getElem?_getD, List.getElem?_set]
  by_cases e : r = i
  · rw [if_pos e]
    split
    · exact hy
    · exact dIt_drawn.bent
  · rw [if_neg e, ← List.getD_eq_getElem?_getD]
    exact h.2 i
theorem drawn_bent {l : List It} {m : Nat} (h : ∀ i, DrawnIt (l.getD i dIt)) (hl : l.length = m) (hm : m ≤ 100) : BentIts l := ⟨by omega, fun i => (h i).bent⟩
/-- one item is written anew, with its attributes, if they are -/
theorem its_bent {w W : World} {B g m c : Nat} {l : List It} {A : Nat → Option Addr} {N C : Nat → Nat} (h : GrowR w B (.slice (some ⟨g, 0, none⟩) m c) m l A N C) (hl : BentIts l) {r : Nat} (hr : r < m)
    (ho : Only (fun i => i = g ∨ (Value.slice (A r) (N r) (C r)).ownBlock = some i) w W)
    (hoff : ∀ i q, i < m → i ≠ r → q < 5 → W.cell? ⟨g, i * 5 + q, none⟩ = w.cell? ⟨g, i * 5 + q, none⟩) {y : It} (hb : BentIt y) {a : Option Addr} {n cc : Nat}
    (hc : ∀ q, q < 5 → W.cell? ⟨g, r * 5 + q, none⟩ = some (if q = 0 then .int .i64 y.depth else if q = 1 then .string y.text else if q = 2 then .string y.space else if q = 3 then .string y.name else .slice a n cc)) (ha : AtsAt W a n cc y.attrs) :
    ItsAt W (some ⟨g, 0, none⟩) m c (l.set r y) ∧ BentIts (l.set r y) := by
  have hlen := h.g.len
  have hgl := (h.g.row.lt g rfl).2
  have hbl := bent_set hl (r := r) hb
  refine ⟨⟨by rw [List.length_set]; exact hlen, by have := hl.1; omega, .inr ⟨g, 0, rfl, fun i hi => ?_⟩⟩, hbl⟩
  rw [Nat.zero_add]
  have hsz := ho.size
  by_cases e : i = r
  · subst e
    have hx : (l.set i y).getD i dIt = y := by rw [List.getD_eq_getElem?_getD, List.getElem?_set_self (by omega)]; rfl
    rw [hx]
    exact it_of_cells (by omega) (.inr ⟨hb.depth.1, hb.depth.2, hb.sizes⟩) hc ha
  · have hx : (l.set r y).getD i dIt = l.getD i dIt := by rw [List.getD_eq_getElem?_getD, List.getElem?_set_ne (by omega), ← List.getD_eq_getElem?_getD]
    rw [hx]
    have hbi := hl.2 i
    refine it_of_cells (a := A i) (n := N i) (c := C i) (by omega) (.inr ⟨hbi.depth.1, hbi.depth.2, hbi.sizes⟩) (fun q hq => ?_) ?_
    · rw [hoff i q hi e hq, h.cellAt i q hi hq, cellI_at i q hq]
    · refine (h.g.ats i (by omega)).1.ats.only ho fun x hx hne hp => ?_
      have hq : (Value.slice (A i) (N i) (C i)).ownBlock = some x.block := by rw [hx]; rfl
      rcases hp with hp | hp
      · exact h.off i (by omega) _ hq (by rw [hp]; rfl)
      · exact h.each i r (by omega) (by omega) e _ hq hp
/-- behind a store into one field -/
theorem its_field {w : World} {B g m c : Nat} {l : List It} {A : Nat → Option Addr} {N C : Nat → Nat} (h : GrowR w B (.slice (some ⟨g, 0, none⟩) m c) m l A N C) (hl : BentIts l) {r f : Nat} (hr : r < m) (hf : f < 4) {y : It} (hb : BentIt y)
    {u : Value} (hu : u = if f = 0 then .int .i64 y.depth else if f = 1 then .string y.text else if f = 2 then .string y.space else .string y.name)
    (h0 : f = 0 ∨ y.depth = (l.getD r dIt).depth) (h1 : f = 1 ∨ y.text = (l.getD r dIt).text) (h2 : f = 2 ∨ y.space = (l.getD r dIt).space) (h3 : f = 3 ∨ y.name = (l.getD r dIt).name) (h4 : y.attrs = (l.getD r dIt).attrs) :
    ItsAt (w.setCell ⟨g, r * 5 + f, none⟩ u) (some ⟨g, 0, none⟩) m c (l.set r y) ∧ BentIts (l.set r y) := by
  have hlen := h.g.len
  have ho : Only (fun i => i = g ∨ (Value.slice (A r) (N r) (C r)).ownBlock = some i) w (w.setCell ⟨g, r * 5 + f, none⟩ u) := Only.set w _ _ (.inl rfl)
  refine its_bent (a := A r) (n := N r) (cc := C r) h hl hr ho (fun i q hi hne hq => ?_) hb (fun q hq => ?_) ?_
  · exact set_off (by omega)
  · by_cases e : q = f
    · subst e
      rw [World.cell?_setCell_same _ _ _ (h.cellAt r q hr hq), hu]
      rcases q with _ | _ | _ | _ | q
      · rfl
      · rfl
      · rfl
      · rfl
      · omega
    · rw [set_off (by omega), h.cellAt r q hr hq, cellI_at r q hq]
      rcases q with _ | _ | _ | _ | _ | q
      · rw [(h0.resolve_left (by omega))]; rfl
      · rw [(h1.resolve_left (by omega))]; rfl
      · rw [(h2.resolve_left (by omega))]; rfl
      · rw [(h3.resolve_left (by omega))]; rfl
      · rfl
      · omega
  · rw [h4]
    refine (h.g.ats r (by omega)).1.ats.only (Only.set (P := fun i => i = g) w _ _ rfl) fun x hx hne hp => ?_
    exact h.off r (by omega) x.block (by rw [hx]; rfl) (by rw [hp]; rfl)
/-- behind an append to one item's attributes, or new ones, and their store -/
theorem its_attrs {w w1 w2 : World} {B B' g m c : Nat} {l : List It} {A : Nat → Option Addr} {N C : Nat → Nat} (h : GrowR w B (.slice (some ⟨g, 0, none⟩) m c) m l A N C) (hl : BentIts l) {r : Nat} (hr : r < m)
    (hb1 : Below w.heap.size w w1) {row : Option Nat} (hg : w1.grownBy w2 row) (hrow : ∀ j, row = some j → (Value.slice (A r) (N r) (C r)).ownBlock = some j)
    {a : Option Addr} {n cc : Nat} {es : List At} (hown : w2.ownsRow B' 73 2 (.slice a n cc) n (flatA es)) (hne : ∀ j, (Value.slice a n cc).ownBlock = some j → j ≠ g) (hn : n ≤ 6) (hes : ShortAts es) :
    ItsAt (w2.setCell ⟨g, r * 5 + 4, none⟩ (.slice a n cc)) (some ⟨g, 0, none⟩) m c (l.set r ⟨(l.getD r dIt).depth, (l.getD r dIt).text, (l.getD r dIt).space, (l.getD r dIt).name, es⟩) ∧ BentIts (l.set r ⟨(l.getD r dIt).depth, (l.getD r dIt).text, (l.getD r dIt).space, (l.getD r dIt).name, es⟩) := by
  have hlen := h.g.len
  have hgl := (h.g.row.lt g rfl).2
  have hoffr : (Value.slice (A r) (N r) (C r)).ownBlock ≠ some g := fun e => h.off r (by omega) g e rfl
  have ho : Only (fun i => (Value.slice (A r) (N r) (C r)).ownBlock = some i) w w2 := (Only.below hb1).trans ((Only.grown hg).mono fun i e => hrow i e.symm)
  have ho2 : Only (fun i => i = g ∨ (Value.slice (A r) (N r) (C r)).ownBlock = some i) w (w2.setCell ⟨g, r * 5 + 4, none⟩ (.slice a n cc)) := (ho.mono fun i e => .inr e).trans (Only.set w2 _ _ (.inl rfl))
  have hcell : ∀ j, w2.cell? ⟨g, j, none⟩ = w.cell? ⟨g, j, none⟩ := fun j => ho.cell (p := ⟨g, j, none⟩) hgl hoffr
  have hats := ownAts_of hown (by omega) (fun i => by have := hes i; omega)
  have hbr := hl.2 r
  have hel : es.length = n := hats.ats.len
  refine its_bent (a := a) (n := n) (cc := cc) h hl hr ho2 (fun i q hi hne hq => ?_) ⟨hbr.depth, hbr.sizes, by simp only; omega, hes⟩ (fun q hq => ?_) ?_
  · rw [set_off (by omega), hcell]
  · by_cases e : q = 4
    · subst e
      rw [World.cell?_setCell_same _ _ _ ((hcell _).trans (h.cellAt r 4 hr hq))]
      rfl
    · rw [set_off (by omega), hcell, h.cellAt r q hr hq, cellI_at r q hq]
      rcases q with _ | _ | _ | _ | _ | q
      · rfl
      · rfl
      · rfl
      · rfl
      · omega
      · omega
  · exact hats.ats.only (Only.set (P := fun i => i = g) w2 _ _ rfl) fun x hx hne0 hp => hne x.block (by rw [hx]; rfl) hp
/-- behind an append of k items that hold nothing -/
theorem its_more {w w2 : World} {B g m c k : Nat} {l : List It} {A : Nat → Option Addr} {N C : Nat → Nat} (h : GrowR w B (.slice (some ⟨g, 0, none⟩) m c) m l A N C) (hl : BentIts l) (hk : m + k ≤ 100) {zs : List Value}
    (hzs : ∀ i q, i < k → q < 5 → zs[i * 5 + q]? = some (if q = 0 then .int .i64 0 else if q = 1 then .string ByteArray.empty else if q = 2 then .string ByteArray.empty else if q = 3 then .string ByteArray.empty else .slice none 0 0))
    {a : Option Addr} {q' : Nat} (hown : w2.ownsRow B 68 5 (.slice a (m + k) q') (m + k) (flatI l A N C ++ zs)) (hg : w.grownBy w2 (some g)) (hm : 0 < m) :
    ItsAt w2 a (m + k) q' (l ++ List.replicate k dIt) ∧ BentIts (l ++ List.replicate k dIt) := by
  have hlen := h.g.len
  rcases hown.2 with ⟨_, h0⟩ | ⟨g', cap, cur, hv, hb', hg', _⟩
  · omega
  · simp only [Value.slice.injEq] at hv
    obtain ⟨rfl, _, rfl⟩ := hv
    have hlt := (hown.lt g' rfl).2
    have hgd : ∀ i, (l ++ List.replicate k dIt).getD i dIt = if i < m then l.getD i dIt else dIt := by
      intro i
      rw [List.getD_eq_getElem?_getD]
      split
      · rw [List.getElem?_append_left (by omega), ← List.getD_eq_getElem?_getD]
      · rw [List.getElem?_append_right (by omega), List.getElem?_replicate]
        split <;> rfl
    have hbent : BentIts (l ++ List.replicate k dIt) := ⟨by rw [List.length_append, List.length_replicate]; omega, fun i => by rw [hgd]; split; exact hl.2 i; exact dIt_drawn.bent⟩
    refine ⟨⟨by rw [List.length_append, List.length_replicate]; omega, by omega, .inr ⟨g', 0, rfl, fun i hi => ?_⟩⟩, hbent⟩
    rw [Nat.zero_add, hgd]
    split
    · rename_i hi2
      have hbi := hl.2 i
      refine it_of_cells (a := A i) (n := N i) (c := C i) hlt (.inr ⟨hbi.depth.1, hbi.depth.2, hbi.sizes⟩) (fun q hq => ?_) ?_
      · rw [hown.cellAt _ (by omega), List.getElem?_append_left (by rw [flatI_length]; omega), flatI_get _ _ _ _ _ (by omega), cellI_at i q hq]
      · exact (h.g.ats i (by omega)).1.ats.only (Only.grown hg) fun x hx hne hp => h.off i (by omega) x.block (by rw [hx]; rfl) (by simp only [Option.some.injEq] at hp; rw [hp]; rfl)
    · rename_i hi2
      refine it_of_cells (y := dIt) (a := none) (n := 0) (c := 0) hlt (.inl dIt_drawn) (fun q hq => ?_) ⟨rfl, by omega, fun i => by simp [dIt, dAt], .inl rfl⟩
      rw [hown.cellAt _ (by omega), List.getElem?_append_right (by rw [flatI_length]; omega), flatI_length]
      have := hzs (i - m) q (by omega) hq
      rw [show i * 5 + q - l.length * 5 = (i - m) * 5 + q by omega, this]
      rfl
end Go.Proofs.YtbfjhjkllaceaaaGreatDoor

/- The laws' draws of bent trees. -/
namespace Go.Proofs.YtbfjhjkllaceaaaGreatDoor
open Go.ChangeShapes Go.WideShapes Go.ChangeAt Go.RowKit
set_option linter.unusedVariables false

theorem zero_cells : (Value.agg #[.int .i64 0, .string ByteArray.empty, .string ByteArray.empty, .string ByteArray.empty, .slice none 0 0]).cells = #[.int .i64 0, .string ByteArray.empty, .string ByteArray.empty, .string ByteArray.empty, .slice none 0 0] := by rfl
theorem zeros_at (k : Nat) : ∀ i q, i < k → q < 5 → (Builtin.zeroCells (Value.agg #[.int .i64 0, .string ByteArray.empty, .string ByteArray.empty, .string ByteArray.empty, .slice none 0 0]).cells k).toList[i * 5 + q]? = some (if q = 0 then .int .i64 0 else if q = 1 then .string ByteArray.empty else if q = 2 then .string ByteArray.empty else if q = 3 then .string ByteArray.empty else .slice none 0 0) := by
  intro i q hi hq
  rw [zero_cells]
  unfold Builtin.zeroCells
  have hsz : (#[.int .i64 0, .string ByteArray.empty, .string ByteArray.empty, .string ByteArray.empty, .slice none 0 0] : Array Value).size = 5 := rfl
  rw [Array.getElem?_toList, Array.getElem?_map, hsz, Array.getElem?_range, if_pos (by omega)]
  simp only [Option.map_some]
  rw [show (i * 5 + q) % 5 = q by omega]
  rcases q with _ | _ | _ | _ | _ | q
  · rfl
  · rfl
  · rfl
  · rfl
  · rfl
  · omega
theorem zeros_one (k : Nat) : ∀ u ∈ (Builtin.zeroCells (Value.agg #[.int .i64 0, .string ByteArray.empty, .string ByteArray.empty, .string ByteArray.empty, .slice none 0 0]).cells k).toList, u.oneCell' = true := by
  intro u hu
  obtain ⟨j, hj, rfl⟩ := List.getElem_of_mem hu
  have hl : (Builtin.zeroCells (Value.agg #[.int .i64 0, .string ByteArray.empty, .string ByteArray.empty, .string ByteArray.empty, .slice none 0 0]).cells k).toList.length = k * 5 := by rw [Array.length_toList, size_zeroCells, zero_cells]; rfl
  have h := zeros_at k (j / 5) (j % 5) (by omega) (by omega)
  rw [show j / 5 * 5 + j % 5 = j by omega, List.getElem?_eq_getElem hj] at h
  rw [Option.some.inj h]
  repeat' split
  all_goals rfl
def lenOfV : Value → Nat
  | .slice _ n _ => n
  | _ => 0
/-- a bent tree is handed back -/
def BentDrawn (w : World) (b : Nat) (e : Ending) (w' : World) : Prop := ∃ (x : Option Addr) (m q : Nat) (l : List It), e = .returned (.slice x m q) ∧ ItsAt w' x m q l ∧ BentIts l ∧ w.grownBy w' (some b)
theorem bent_end {w w3 W : World} {b x : Nat} (h : w.grownBy w3 (some b)) (hx : w.heap.size ≤ x) (hg : w3.grownBy W (some x)) : w.grownBy W (some b) := grown_mix h hg (fun g e => by cases e; exact hx)

set_option maxRecDepth 100000 in
set_option maxHeartbeats 12800000 in
theorem l4Bent_any (b : Nat) (a : Option Addr) (n c : Nat) (xs : List Int) (k : Nat) (hk : k + 4000 < 1000000) (w : World) (h : Src w b a n c xs k) :
    Calls Tryz.prog 24 #[.pointer (some ⟨b, 0, none⟩)] w (BentDrawn w b) := by
  obtain ⟨i0, hi, hz0, hi1, hz2⟩ := info_parts itemInfo
  obtain ⟨j0, hj, hjz0, hj1, hjz2⟩ := info_parts attrInfo
  unfold BentDrawn
  have hblt := h.lt
  have KT := Lib.hid (l4Draw_any b a n c xs k 10 (by decide) (by decide) (by omega) w h)
  unfold TreeDrawn at KT
  simp only [show ((10 : Nat) : Int) = 10 from rfl] at KT
  have KN := Lib.hid (fun (k : Nat) (m : Int) (hm0 : 1 ≤ m) (hm : m ≤ 1000000000) (hk : k < 1000000) (W : World) (h : Src W b a n c xs k) => l1Next_any b a n c xs k m hm0 hm hk W h)
  unfold NextRes at KN
  clear h
  go_enter Tryz.func24, Tryz.ntmps24
  go_wp2_with fail
  refine KT.out.mono ?_
  rintro e w1 ⟨x, m, q, l, A, N, C, k1, rfl, hg1, hm1, hm10, hD, hk1, hs1, hgr1⟩
  obtain ⟨bo, cap, cur, hv, hbo1, _⟩ := hg1.row.2.resolve_left (by omega)
  simp only [Value.slice.injEq] at hv
  obtain ⟨rfl, _, rfl⟩ := hv
  have HB := Lib.hid (drawn_bent hD hg1.g.len (by omega))
  have HD := Lib.hid hD
  have G1 := Lib.hid hg1
  have S1 := Lib.hid hs1
  have E1 := Lib.hid hgr1
  clear hg1 hs1 hgr1 hD
  go_wp2_with fail
  refine (KN.out k1 m (by omega) (by omega) (by omega) _ S1.out).mono ?_
  rintro e w2 ⟨r, rfl, hr, hs2, hg2⟩
  have hr := hr (by omega)
  have hrn : r < m := by omega
  have G2 := Lib.hid (G1.out.far hg2 hblt)
  have S2 := Lib.hid hs2
  have E2 := Lib.hid (grown_trans_row E1.out hg2)
  clear hs2 hg2
  go_wp2_with fail
  refine (KN.out (k1 + 1) 18 (by decide) (by decide) (by omega) _ S2.out).mono ?_
  rintro e w3 ⟨z, rfl, hz, hs3, hg3⟩
  have hz := hz (by decide)
  have G3 := Lib.hid (G2.out.far hg3 hblt)
  have S3 := Lib.hid hs3
  have E3 := Lib.hid (grown_trans_row E2.out hg3)
  clear hs3 hg3
  have hzn : (0 : Int) ≤ (z : Int) := by omega
  generalize (z : Int) = t at hz hzn ⊢
  have hsz3 : w.heap.size ≤ w3.heap.size := E3.out.size
  have hbolt : bo < w3.heap.size := (G3.out.row.lt bo rfl).2
  have fz : ∀ j, w3.frozen? ⟨bo, j, none⟩ = false := fun j => G3.out.row.frozenAt j
  have FZ := Lib.hid fz
  clear fz
  by_cases t0 : t = 0
  · subst t0
    go_wp2_with fail
    refine (l1Pick_any b a n c xs (k1 + 1 + 1) w3.heap.size 5 _ rfl (by decide) (by decide) (by omega) _ (S3.out.alloc _) (lit_row w3 _ .i64 [-1, 0, 1, 6, 7] 5 rfl (by decide)) (by omega)).mono ?_
    rintro e w4 ⟨d, rfl, hdm, hs4, hg4⟩
    have hd : -1 ≤ d ∧ d ≤ 7 := by
      simp only [List.mem_cons, List.not_mem_nil, or_false] at hdm
      omega
    have G4 := Lib.hid ((G3.out.below (below1 w3 _)).far hg4 hblt)
    have E4 := Lib.hid (grown_trans_row (step_below E3.out (below1 w3 _)) hg4)
    have p0 : w4.cell? ⟨bo, r * 5, none⟩ = _ := G4.out.cellAt r 0 hrn (by decide)
    have f0 : w4.frozen? ⟨bo, r * 5, none⟩ = false := G4.out.row.frozenAt (r * 5 + 0)
    clear hs4 hg4 hdm
    go_wp2
    go_ret
    have hb := HB.out.2 r
    have R := its_field (f := 0) (u := .int .i64 d) G4.out HB.out hrn (by decide) (y := ⟨d, (l.getD r dIt).text, (l.getD r dIt).space, (l.getD r dIt).name, (l.getD r dIt).attrs⟩) ⟨hd, hb.sizes, hb.few, hb.short⟩ (by rfl) (.inl rfl) (.inr rfl) (.inr rfl) (.inr rfl) rfl
    exact ⟨_, _, _, _, rfl, R.1, R.2, bent_end E4.out hbo1 (grown_set w4 _ _)⟩
  by_cases t1 : t = 1
  · subst t1
    have p0 := G3.out.cellAt r 1 hrn (by decide)
    have f0 := FZ.out (r * 5 + 1)
    go_wp2
    go_ret
    have hb := HB.out.2 r
    have R := its_field (f := 1) (u := .string ⟨#[116]⟩) G3.out HB.out hrn (by decide) (y := ⟨(l.getD r dIt).depth, ⟨#[116]⟩, (l.getD r dIt).space, (l.getD r dIt).name, (l.getD r dIt).attrs⟩) ⟨hb.depth, ⟨show (⟨#[116]⟩ : ByteArray).size ≤ 60 by decide, hb.sizes.2.1, hb.sizes.2.2⟩, hb.few, hb.short⟩ (by rfl) (.inr rfl) (.inl rfl) (.inr rfl) (.inr rfl) rfl
    exact ⟨_, _, _, _, rfl, R.1, R.2, bent_end E3.out hbo1 (grown_set w3 _ _)⟩
  by_cases t2 : t = 2
  · subst t2
    have p0 := G3.out.cellAt r 3 hrn (by decide)
    have f0 := FZ.out (r * 5 + 3)
    go_wp2
    go_ret
    have hb := HB.out.2 r
    have R := its_field (f := 3) (u := .string ⟨#[49]⟩) G3.out HB.out hrn (by decide) (y := ⟨(l.getD r dIt).depth, (l.getD r dIt).text, (l.getD r dIt).space, ⟨#[49]⟩, (l.getD r dIt).attrs⟩) ⟨hb.depth, ⟨hb.sizes.1, hb.sizes.2.1, show (⟨#[49]⟩ : ByteArray).size ≤ 60 by decide⟩, hb.few, hb.short⟩ (by rfl) (.inr rfl) (.inr rfl) (.inr rfl) (.inl rfl) rfl
    exact ⟨_, _, _, _, rfl, R.1, R.2, bent_end E3.out hbo1 (grown_set w3 _ _)⟩
  by_cases t3 : t = 3
  · subst t3
    have p0 := G3.out.cellAt r 2 hrn (by decide)
    have f0 := FZ.out (r * 5 + 2)
    go_wp2
    go_ret
    have hb := HB.out.2 r
    have R := its_field (f := 2) (u := .string ⟨#[1]⟩) G3.out HB.out hrn (by decide) (y := ⟨(l.getD r dIt).depth, (l.getD r dIt).text, ⟨#[1]⟩, (l.getD r dIt).name, (l.getD r dIt).attrs⟩) ⟨hb.depth, ⟨hb.sizes.1, show (⟨#[1]⟩ : ByteArray).size ≤ 60 by decide, hb.sizes.2.2⟩, hb.few, hb.short⟩ (by rfl) (.inr rfl) (.inr rfl) (.inl rfl) (.inr rfl) rfl
    exact ⟨_, _, _, _, rfl, R.1, R.2, bent_end E3.out hbo1 (grown_set w3 _ _)⟩
  by_cases t4 : t = 4
  · subst t4
    have p0 := G3.out.cellAt r 4 hrn (by decide)
    have hlr : r < l.length := by have := G3.out.g.len; omega
    have hfew : (l.getD r dIt).attrs.length ≤ 5 := (HD.out r).few
    have hNr : (l.getD r dIt).attrs.length = N r := (G3.out.g.ats r hlr).1.ats.len
    obtain ⟨es, hes⟩ : ∃ es, (l.getD r dIt).attrs = es := ⟨_, rfl⟩
    have RW := Lib.hid (G3.out.rows r hlr)
    have OF := Lib.hid (fun j e => G3.out.off r hlr j e)
    rw [cellI_at r 4 (by decide)] at p0
    simp only [show ¬ ((4 : Nat) = 0) by decide, show ¬ ((4 : Nat) = 1) by decide, show ¬ ((4 : Nat) = 2) by decide, show ¬ ((4 : Nat) = 3) by decide, if_false] at p0
    have hs0 := (HD.out r).short
    rw [hes] at RW hs0 hfew hNr
    have HSS := Lib.hid hs0
    clear hs0
    go_wp2_with (at_builtin; refine wpList_append_own_at _ rfl _ _ 66 rfl w.heap.size 73 j0 (.agg #[.string ByteArray.empty, .string ByteArray.empty]) 2 32 Tryz.underlying66 hj hjz0 hj1 hjz2 rfl (by decide) _ (N r) _ rfl (owns_below RW.out (below1 _ _)) ⟨w3.heap.size, 0, none⟩ 1 1 [.string ⟨#[97]⟩, .string ⟨#[]⟩] rfl rfl ?c1 ?c2 ?c3 ?c4 ?c5 ?_)
    case c1 => exact attCells w3 _ _
    case c2 => intro v hv; simp at hv; rcases hv with rfl | rfl <;> rfl
    case c3 => unfold maxLen; omega
    case c4 => omega
    case c5 => simp; omega
    intro v' w4 hown' hgr4 _ hat
    obtain ⟨a8, c8, rfl⟩ := owns_slice hown'
    have hown8 : w4.ownsRow w.heap.size 73 2 (.slice a8 (N r + 1) c8) (N r + 1) (flatA (es ++ [⟨⟨#[97]⟩, ⟨#[]⟩⟩])) := by rw [flatA_snoc]; exact hown'
    have R := its_attrs (es := es ++ [(⟨⟨#[97]⟩, ⟨#[]⟩⟩ : At)]) G3.out HB.out hrn (below1 w3 (.cells #[.string ⟨#[97]⟩, .string ⟨#[]⟩] 73)) hgr4 (fun j e => e) hown8 (fun j e => by
      rcases hat with e2 | e2
      · rw [e2] at e
        intro e3
        subst e3
        exact OF.out j e rfl
      · rw [e2] at e
        simp at e
        omega) (by omega) (sizes_snoc HSS.out (show (⟨#[97]⟩ : ByteArray).size ≤ 60 by decide) (show (⟨#[]⟩ : ByteArray).size ≤ 60 by decide))
    have EE := Lib.hid (step_appended E3.out (Nat.le_refl _) RW.out hgr4)
    have hcell : w4.cell? ⟨bo, r * 5 + 4, none⟩ = some (.slice (A r) (N r) (C r)) := hgr4.cell (((below1 w3 _).cell (by exact hbolt)).trans p0) (fun e => OF.out bo e.symm rfl)
    have hfr : w4.frozen? ⟨bo, r * 5 + 4, none⟩ = false := ((Only.grown hgr4).frozen (p := ⟨bo, r * 5 + 4, none⟩) (by simp; omega) (fun e => OF.out bo e.symm rfl)).trans (((below1 w3 _).frozen (by exact hbolt)).trans (FZ.out _))
    have RR := Lib.hid R
    clear R hown8 hat hown' hgr4
    go_wp2
    go_ret
    exact ⟨_, _, _, _, rfl, RR.out.1, RR.out.2, bent_end EE.out hbo1 (grown_set w4 _ _)⟩
  by_cases t5 : t = 5
  · subst t5
    have p0 := ((below1 w3 (.cells #[.string ⟨#[120, 109, 108, 110, 115]⟩, .string ⟨#[]⟩] 73)).cell (p := ⟨bo, r * 5 + 4, none⟩) (by exact hbolt)).trans (G3.out.cellAt r 4 hrn (by decide))
    have f0 := ((below1 w3 (.cells #[.string ⟨#[120, 109, 108, 110, 115]⟩, .string ⟨#[]⟩] 73)).frozen (p := ⟨bo, r * 5 + 4, none⟩) (by exact hbolt)).trans (FZ.out (r * 5 + 4))
    go_wp2
    go_ret
    have hown := World.ownsRow_lit (base := w.heap.size) (e := 73) (size := 2) w3 #[.string ⟨#[120, 109, 108, 110, 115]⟩, .string ⟨#[]⟩] 1 (by omega) (by unfold maxLen; omega) rfl
    have R := its_attrs (es := [⟨⟨#[120, 109, 108, 110, 115]⟩, ⟨#[]⟩⟩]) (row := none) G3.out HB.out hrn (below1 w3 (.cells #[.string ⟨#[120, 109, 108, 110, 115]⟩, .string ⟨#[]⟩] 73)) (World.grownBy.refl _ _) (fun j e => by cases e) hown (fun j e => by simp only [Value.ownBlock, Option.some.injEq] at e; omega) (by decide) (sizes_snoc (es := []) (fun i => by simp [dAt]) (by decide) (by decide))
    have ew := World.setCell_alloc_past (w := w3) (.cells #[.string ⟨#[120, 109, 108, 110, 115]⟩, .string ⟨#[]⟩] 73) bo (r * 5 + 4) (.slice (some ⟨w3.heap.size, 0, none⟩) 1 1) hbolt
    rw [← ew]
    exact ⟨_, _, _, _, rfl, R.1, R.2, bent_end (step_below E3.out (below1 w3 _)) hbo1 (grown_set _ _ _)⟩
  by_cases t6 : t = 6
  · subst t6
    have p0 := G3.out.cellAt r 3 hrn (by decide)
    have f0 := FZ.out (r * 5 + 3)
    go_wp2
    go_ret
    have hb := HB.out.2 r
    have R := its_field (f := 3) (u := .string ⟨#[]⟩) G3.out HB.out hrn (by decide) (y := ⟨(l.getD r dIt).depth, (l.getD r dIt).text, (l.getD r dIt).space, ⟨#[]⟩, (l.getD r dIt).attrs⟩) ⟨hb.depth, ⟨hb.sizes.1, hb.sizes.2.1, show (⟨#[]⟩ : ByteArray).size ≤ 60 by decide⟩, hb.few, hb.short⟩ (by rfl) (.inr rfl) (.inr rfl) (.inr rfl) (.inl rfl) rfl
    exact ⟨_, _, _, _, rfl, R.1, R.2, bent_end E3.out hbo1 (grown_set w3 _ _)⟩
  by_cases t7 : t = 7
  · subst t7
    go_wp2_with fail
    refine (l1Pick_any b a n c xs (k1 + 1 + 1) w3.heap.size 2 _ rfl (by decide) (by decide) (by omega) _ (S3.out.alloc _) (lit_row w3 _ .i64 [1, 40] 2 rfl (by decide)) (by omega)).mono ?_
    rintro e w4 ⟨d, rfl, hdm, hs4, hg4⟩
    obtain ⟨kk, rfl, hkk0, hkk⟩ : ∃ kk : Nat, d = (kk : Int) ∧ 0 < kk ∧ kk ≤ 40 := by
      simp only [List.mem_cons, List.not_mem_nil, or_false] at hdm
      rcases hdm with rfl | rfl
      · exact ⟨1, rfl, by decide, by decide⟩
      · exact ⟨40, rfl, by decide, by decide⟩
    have G4 := Lib.hid ((G3.out.below (below1 w3 _)).far hg4 hblt)
    have E4 := Lib.hid (grown_trans_row (step_below E3.out (below1 w3 _)) hg4)
    have hw4 : w3.heap.size ≤ w4.heap.size := by have := hg4.size; simp at this; omega
    clear hs4 hg4 hdm
    go_wp2_with (at_builtin; refine wpList_append_zeros _ rfl _ _ 24 2 rfl w.heap.size 68 i0 (.agg #[.int .i64 0, .string ByteArray.empty, .string ByteArray.empty, .string ByteArray.empty, .slice none 0 0]) 5 80 .i64 .i64 Tryz.underlying24 Tryz.underlying2 hi hz0 hi1 hz2 rfl (by decide) _ m _ rfl G4.out.row (by omega) kk rfl hkk0 (zeros_one kk) ?c3 ?c4 ?c5 ?_)
    case c3 => unfold maxLen; omega
    case c4 => omega
    case c5 => omega
    intro v' w5 hown' hgr5 hat
    obtain ⟨a8, c8, rfl⟩ := owns_slice hown'
    have RR := Lib.hid (its_more G4.out HB.out (by omega) (zeros_at kk) hown' hgr5 (by omega))
    have EE := Lib.hid (bent_end E4.out hbo1 hgr5)
    clear hown' hgr5 hat
    go_wp2
    go_ret
    exact ⟨_, _, _, _, rfl, RR.out.1, RR.out.2, EE.out⟩
  by_cases t8 : t = 8
  · subst t8
    go_wp2
    go_ret
    exact ⟨none, 0, 0, [], rfl, ⟨rfl, by omega, .inl rfl⟩, ⟨by simp, fun i => by simpa using dIt_drawn.bent⟩, E3.out⟩
  by_cases t9 : t = 9
  · subst t9
    go_wp2
    go_loopw [3] (fun v wr => ∃ (j cap' : Nat) (x' : Option Addr) (l' : List It) (A' : Nat → Option Addr) (N' C' : Nat → Nat) (k' : Nat), v = .slice x' j cap' ∧ 1 ≤ j ∧ j ≤ 41 ∧ k' ≤ k1 + 2 + j ∧ GrowR wr w.heap.size (.slice x' j cap') j l' A' N' C' ∧ (∀ i, DrawnIt (l'.getD i dIt)) ∧ Src wr b a n c xs k' ∧ w.grownBy wr (some b)) (fun v _ => 41 - lenOfV v)
    case atStart => exact ⟨m, q, _, l, A, N, C, k1 + 1 + 1, rfl, hm1, by omega, by omega, G3.out, HD.out, S3.out, E3.out⟩
    case round =>
      obtain ⟨j, cap', x', l', A', N', C', k', rfl, hj1, hj41, hk', hG, hDD, hS, hE⟩ := hrel
      have GG := Lib.hid hG
      have DD := Lib.hid hDD
      have SS := Lib.hid hS
      have EE := Lib.hid hE
      have hwr : w.heap.size ≤ wr.heap.size := hE.size
      clear hG hDD hS hE
      go_wp2_with fail
      refine (l1Pick_any b a n c xs k' wr.heap.size 2 _ rfl (by decide) (by decide) (by omega) _ (SS.out.alloc _) (lit_row wr _ .i64 [40, 41] 2 rfl (by decide)) (by omega)).mono ?_
      rintro e w4 ⟨d, rfl, hdm, hs4, hg4⟩
      have hd : 40 ≤ d ∧ d ≤ 41 := by
        simp only [List.mem_cons, List.not_mem_nil, or_false] at hdm
        omega
      have G4 := Lib.hid ((GG.out.below (below1 wr _)).far hg4 hblt)
      have S4 := Lib.hid hs4
      have E4 := Lib.hid (grown_trans_row (step_below EE.out (below1 wr _)) hg4)
      have hw4 : wr.heap.size ≤ w4.heap.size := by have := hg4.size; simp at this; omega
      clear hs4 hg4 hdm
      by_cases hjd : (j : Int) < d
      · go_wp2_with (at_builtin; refine wpList_append_own_at _ rfl _ _ 24 rfl w.heap.size 68 i0 (.agg #[.int .i64 0, .string ByteArray.empty, .string ByteArray.empty, .string ByteArray.empty, .slice none 0 0]) 5 80 Tryz.underlying24 hi hz0 hi1 hz2 rfl (by decide) _ j _ rfl (G4.out.row.alloc _) ⟨w4.heap.size, 0, none⟩ 1 1 [.int .i64 1, .string ⟨#[]⟩, .string ⟨#[]⟩, .string ⟨#[122]⟩, .slice none 0 0] rfl rfl ?c1 ?c2 ?c3 ?c4 ?c5 ?_)
        case c1 => exact fun j u hj => itCells w4 _ _ _ _ _ j u hj
        case c2 => intro v hv; simp at hv; rcases hv with rfl | rfl | rfl | rfl <;> rfl
        case c3 => unfold maxLen; omega
        case c4 => omega
        case c5 => simp; omega
        intro v' w8 hown' hgr _ hat
        obtain ⟨a8, c8, rfl⟩ := owns_slice hown'
        have hb8 := below1 w4 (.cells #[.int .i64 1, .string ⟨#[]⟩, .string ⟨#[]⟩, .string ⟨#[122]⟩, .slice none 0 0] 68)
        have G8 := Lib.hid (G4.out.snocO (P := fun i => some i = some b) (x := ⟨1, ⟨#[]⟩, ⟨#[]⟩, ⟨#[122]⟩, []⟩) (Only.below hb8) (fun i hi e => by simp only [Option.some.injEq] at e; omega)
          (noAts0 _ _ _) (noRow0 _ _) (fun _ => rfl) (by omega) hown' hgr (hat.imp id fun e => ⟨w4.heap.size + 1, by simpa using e, by simp⟩))
        have S8 := Lib.hid ((S4.out.below hb8).grown hgr (fun g e => by have := (G4.out.row.lt g e).1; omega))
        have E8 := Lib.hid (step_appended E4.out (Nat.le_refl _) G4.out.row hgr)
        have D8 := Lib.hid (drawn_snoc DD.out (x := ⟨1, ⟨#[]⟩, ⟨#[]⟩, ⟨#[122]⟩, []⟩) ⟨by decide, ⟨by decide, by decide, by decide⟩, by simp, fun i => by simp [dAt]⟩)
        clear hown' hgr hat hb8
        go_wp2
        go_roundw
        case rel => exact ⟨j + 1, c8, a8, _, _, _, _, k' + 1, rfl, by omega, by omega, by omega, G8.out, D8.out, S8.out, E8.out⟩
        case measure => simp [lenOfV]; omega
      · have HI := Lib.hid ((GG.out.own (by omega) (drawn_sizes DD.out j)).its)
        have HI4 := Lib.hid ((G4.out.own (by omega) (drawn_sizes DD.out j)).its)
        go_wp2
        go_ret
        exact ⟨_, _, _, l', rfl, HI4.out, drawn_bent DD.out GG.out.g.len (by omega), E4.out⟩
  go_wp2
  go_ret
  exact ⟨_, _, _, l, rfl, (G3.out.own (by omega) (drawn_sizes HD.out m)).its, HB.out, E3.out⟩
end Go.Proofs.YtbfjhjkllaceaaaGreatDoor

/- The model's PackTree. -/
namespace Go.Proofs.YtbfjhjkllaceaaaGreatDoor
open Go.ChangeShapes Go.WideShapes Go.ChangeAt Go.RowKit
set_option linter.unusedVariables false

/-- the bytes of PackTree -/
def packT (l : List It) : List Int := if treeCode l = 0 then packL l else []
theorem packL_length (l : List It) (hl : l.length ≤ 40) (hg : ∀ x ∈ l, GoodIt x) : (packL l).length ≤ 50000 := by
  have h1 := goodCount hl hg
  have h2 := goodStrs hg
  have h3 := vput_len9 (strsOf l).length (by omega)
  have h4 := vput_len9 l.length (by omega)
  have h5 : ((strsOf l).flatMap strB).length ≤ 69 * (strsOf l).length := by
    generalize strsOf l = ts at h2
    clear h1 h3
    induction ts with
    | nil => simp
    | cons t r ih =>
      have := strB_length t (h2 t (by simp))
      have := ih (fun s hs => h2 s (by simp [hs]))
      rw [List.flatMap_cons, List.length_append, List.length_cons]
      omega
  have h6 : ∀ r : List It, (∀ x ∈ r, GoodIt x) → (r.flatMap (itB (strsOf l))).length ≤ 200 * r.length := by
    intro r
    induction r with
    | nil => intro _; simp
    | cons x t ih =>
      intro hx
      have := itB_length (strsOf l) x (by omega) (by have := (hx x (by simp)).depth; omega) (hx x (by simp)).few
      have := ih (fun y hy => hx y (by simp [hy]))
      rw [List.flatMap_cons, List.length_append, List.length_cons]
      omega
  have h7 := h6 l hg
  unfold packL
  simp only [List.length_append]
  omega
theorem packT_length (l : List It) : (packT l).length ≤ 50000 := by
  unfold packT
  split
  · rename_i h
    obtain ⟨h1, h2⟩ := goodTree h
    exact packL_length l h1 h2
  · simp

set_option maxHeartbeats 1600000 in
theorem specPackTree_any (a : Option Addr) (n c : Nat) (l : List It) (w : World) (hs : SmallIts l) (h : ItsAt w a n c l) :
    Calls Tryz.prog 14 #[.slice a n c] w (OwnsRes2 w 5 .u8 (treeCode l) (packT l)) := by
  have KT := Lib.hid (fun (W : World) (hW : Below w.heap.size w W) => specTreeFault_any a n c l W hs (h.below hW))
  unfold OwnsRes2
  by_cases ht : treeCode l = 0
  · have e : packT l = packL l := by unfold packT; rw [if_pos ht]
    obtain ⟨h1, h2⟩ := goodTree ht
    have KP := Lib.hid (fun (W : World) (hW : Below w.heap.size w W) => l6Pack_any a n c l W h1 h2 (h.below hW))
    unfold OwnsRes at KP
    rw [e, ht]
    rw [ht] at KT
    generalize packL l = L at KP ⊢
    clear hs h ht e h1 h2
    go_enter Tryz.func14, Tryz.ntmps14
    go_wp2_with fail
    refine (KT.out _ (below1 _ _)).mono ?_
    rintro e w1 ⟨rfl, hb1⟩
    have HW1 := Lib.hid ((below1 w _).trans (hb1.mono (by simp)))
    have HB1 := Lib.hid hb1
    clear hb1
    go_wp2_with fail
    refine (KP.out _ HW1.out).mono ?_
    rintro e w2 ⟨a2, n2, c2, rfl, ho, hb2⟩
    have hb := below_then HB1.out hb2
    obtain ⟨hc, hf⟩ := bcell hb
    have HO := Lib.hid (owns_mono ho HB1.out.size)
    have hz := hb.size
    simp at hz
    have HB := Lib.hid hb
    clear ho hb2 hb
    go_wp2
    exact bodyPost_ret (v := .agg #[.int .i64 0, .slice a2 n2 c2]) (by simp [results, Tryz.results14, go_sem, hc]) rfl
      ⟨a2, n2, c2, rfl, owns_mono (owns_set_below (owns_set_below HO.out _ (by simp) _) _ (by simp) _) (by simp), (((below1 w _).trans (HB.out.mono (by simp))).setCell (by simp) _).setCell (by simp) _⟩
  · have e : packT l = [] := by unfold packT; rw [if_neg ht]
    rw [e]
    generalize treeCode l = t at KT ht ⊢
    have h0 : (t == 0) = false := by simpa using ht
    have h1 : (t != 0) = true := by simpa using ht
    clear hs h ht e
    go_enter Tryz.func14, Tryz.ntmps14
    go_wp2_with fail
    refine (KT.out _ (below1 _ _)).mono ?_
    rintro e w1 ⟨rfl, hb⟩
    obtain ⟨hc, hf⟩ := bcell hb
    have hz := hb.size
    simp at hz
    go_wp2
    exact bodyPost_ret (v := .agg #[.int .i64 t, .slice none 0 0]) (by simp [results, Tryz.results14, go_sem, hc]) rfl
      ⟨none, 0, 0, rfl, World.ownsRow_nil _ _ _ _, (((below1 w _).trans (hb.mono (by simp))).setCell (by simp) _).setCell (by simp) _⟩
end Go.Proofs.YtbfjhjkllaceaaaGreatDoor

/- A slice of bytes that came in. -/
namespace Go.Proofs.YtbfjhjkllaceaaaGreatDoor
open Go.ChangeShapes Go.WideShapes Go.ChangeAt Go.RowKit
set_option linter.unusedVariables false

/-- the bytes xs are what the slice that came in holds -/
structure InRow (W : World) (a : Option Addr) (n c : Nat) (xs : List Int) : Prop where
  max : n ≤ maxLen
  len : xs.length = n
  byte : ∀ i, 0 ≤ xs.getD i 0 ∧ xs.getD i 0 ≤ 255
  row : n = 0 ∨ ∃ rb ro, a = some ⟨rb, ro, none⟩ ∧ rb < W.heap.size ∧ ∀ i, i < n → W.cell? ⟨rb, ro + i, none⟩ = some (.int .u8 (xs.getD i 0))
theorem InRow.nil (W : World) : InRow W none 0 0 [] := ⟨by decide, rfl, fun i => by simp, .inl rfl⟩
theorem InRow.cells {W : World} {x : Addr} {n : Nat} {zs : List Int} (hn : n ≤ zs.length) (hcell : ∀ i, i < zs.length → W.cell? (x.add i) = some (.int .u8 (zs.getD i 0))) :
    n = 0 ∨ ∃ rb ro, some x = some ⟨rb, ro, none⟩ ∧ rb < W.heap.size ∧ ∀ i, i < n → W.cell? ⟨rb, ro + i, none⟩ = some (.int .u8 (zs.getD i 0)) := by
  by_cases h0 : n = 0
  · exact .inl h0
  · obtain ⟨b, o, s⟩ := x
    have hc := hcell 0 (by omega)
    have hs : s = none := by simpa [Addr.add] using World.cell?_spot hc
    subst hs
    refine .inr ⟨b, o, rfl, by simpa [Addr.add] using World.block_lt_of_cell? W _ hc, fun i hi => ?_⟩
    have := hcell i (by omega)
    rwa [Addr.add_lit] at this
theorem InRow.ofCells {W : World} {x : Addr} {n c : Nat} {zs : List Int} (hl : n ≤ c) (hm : c ≤ maxLen) (hz : zs.length = c) (hcell : ∀ i, i < zs.length → W.cell? (x.add i) = some (.int .u8 (zs.getD i 0)))
    (hwz : ∀ y ∈ zs, (Lit.int .u8 y).wf = true) : InRow W (some x) n c (zs.take n) := by
  have hb : ∀ i, 0 ≤ zs.getD i 0 ∧ zs.getD i 0 ≤ 255 := by
    intro i
    rw [List.getD_eq_getElem?_getD]
    by_cases hi : i < zs.length
    · rw [List.getElem?_eq_getElem hi]
      have := hwz _ (List.getElem_mem hi)
      simp only [Lit.wf, Bool.and_eq_true, decide_eq_true_eq] at this
      exact this
    · rw [List.getElem?_eq_none (by omega)]
      simp
  have hg : ∀ i, i < n → (zs.take n).getD i 0 = zs.getD i 0 := fun i hi => by
    simp only [List.getD_eq_getElem?_getD, List.getElem?_take, hi, if_true]
  refine ⟨Nat.le_trans hl hm, by rw [List.length_take]; omega, fun i => ?_, ?_⟩
  · by_cases hi : i < n
    · rw [hg i hi]
      exact hb i
    · rw [List.getD_eq_getElem?_getD, List.getElem?_eq_none (by rw [List.length_take]; omega)]
      simp
  · rcases InRow.cells (x := x) (n := n) (by omega) hcell with h | ⟨rb, ro, h1, h2, h3⟩
    · exact .inl h
    · exact .inr ⟨rb, ro, h1, h2, fun i hi => by rw [hg i hi]; exact h3 i hi⟩
/-- a row of the call's own, handed on -/
theorem inRow_owned {W : World} {B : Nat} {a : Option Addr} {n c : Nat} {xs : List Int} (h : W.ownsRow B 5 1 (.slice a n c) n (xs.map (Value.int .u8))) (hb : ∀ i, 0 ≤ xs.getD i 0 ∧ xs.getD i 0 ≤ 255) : InRow W a n c xs := by
  have hl := owns_length h
  rcases Row.of_owns h with ⟨hv, rfl⟩ | ⟨b, o, cap, hv, h1, h2, h3, h4⟩
  · simp only [Value.slice.injEq] at hv
    obtain ⟨rfl, rfl, rfl⟩ := hv
    exact ⟨by decide, rfl, hb, .inl rfl⟩
  · simp only [Value.slice.injEq] at hv
    obtain ⟨rfl, rfl, rfl⟩ := hv
    exact ⟨Nat.le_trans h1 h2, rfl, hb, .inr ⟨b, o, rfl, h3, h4⟩⟩
end Go.Proofs.YtbfjhjkllaceaaaGreatDoor

/- toByteS: a copy of bytes; eqReadResult. -/
namespace Go.Proofs.YtbfjhjkllaceaaaGreatDoor
open Go.ChangeShapes Go.WideShapes Go.ChangeAt Go.RowKit
set_option linter.unusedVariables false

theorem tbInfo : (Tryz.prog.info? 5).map (fun i => (i.zero, i.size, i.bytes)) = some (some (.int .u8 0), 1, 1) := by kernel_rfl
theorem below_of_grown0 {w w1 : World} (h : w.grownBy w1 none) : Below w.heap.size w w1 := ⟨h.os, h.tape, h.output, h.size, fun i hi => h.block i hi (by simp)⟩
theorem InRow.below {w w' : World} {a : Option Addr} {n c : Nat} {xs : List Int} (h : InRow w a n c xs) (hb : Below w.heap.size w w') : InRow w' a n c xs := by
  refine ⟨h.max, h.len, h.byte, ?_⟩
  rcases h.row with e | ⟨rb, ro, ha, hr, hc⟩
  · exact .inl e
  · exact .inr ⟨rb, ro, ha, Nat.lt_of_lt_of_le hr hb.size, fun i hi => (hb.cell (p := ⟨rb, ro + i, none⟩) hr).trans (hc i hi)⟩
theorem copy_step (j n : Nat) (xs : List Int) (hn : n = xs.length) (hj : j < n) :
    ((xs.take j ++ List.replicate (n - j) 0).map (Value.int .u8)).set j (.int .u8 (xs.getD j 0)) = (xs.take (j + 1) ++ List.replicate (n - (j + 1)) 0).map (Value.int .u8) := by
  subst hn
  have e : xs.length - j = (xs.length - (j + 1)) + 1 := by omega
  have hlen : ((xs.take j).map (Value.int .u8)).length = j := by simp; omega
  have hget : xs.take (j + 1) = xs.take j ++ [xs.getD j 0] := by
    rw [List.take_succ_eq_append_getElem hj, List.getD_eq_getElem?_getD, List.getElem?_eq_getElem hj]; rfl
  rw [e, List.replicate_succ, hget, List.map_append, List.set_append_right _ _ (by rw [hlen]; exact Nat.le_refl _), hlen, Nat.sub_self, List.map_cons, List.set_cons_zero, List.map_append, List.map_append]
  simp only [List.map_cons, List.map_nil, List.append_assoc, List.cons_append, List.nil_append]

set_option maxRecDepth 100000 in
set_option maxHeartbeats 1600000 in
theorem toByteS_any (a : Option Addr) (n c : Nat) (xs : List Int) (w : World) (hn : n ≤ 1048576) (h : InRow w a n c xs) :
    Calls Tryz.prog 18 #[.slice a n c] w (OwnsRes w 5 .u8 xs) := by
  obtain ⟨i0, hi, hz0, hz1, hz2⟩ := info_parts tbInfo
  have HR := Lib.hid h.row
  have HL := Lib.hid h.len.symm
  clear h
  go_enter Tryz.func18, Tryz.ntmps18
  go_wp2_with (at_make; refine wpList_make_full _ rfl _ _ 22 rfl w.heap.size 5 i0 (.int .u8 0) 1 Tryz.underlying22 hi hz0 hz1 .i64 .i64 (n : Int) (n : Int) n rfl rfl rfl rfl ?c1 ?c2 ?c3 ?_)
  case c1 => rw [hz2]; omega
  case c2 => unfold maxLen; omega
  case c3 => exact Nat.le_refl _
  intro w1 ho1 hg1
  have HO1 := Lib.hid ho1
  have HG1 := Lib.hid hg1
  clear ho1 hg1
  go_wp2
  go_loopw [4] (fun i wr => ∃ j : Nat, j ≤ n ∧ i = .int .i64 j ∧ wr.ownsRow w.heap.size 5 1 (.slice (some ⟨w.heap.size, 0, none⟩) n n) n ((xs.take j ++ List.replicate (n - j) 0).map (Value.int .u8)) ∧ Below w.heap.size w wr) (fun i _ => n - (intOf i).toNat)
  case atStart =>
    refine ⟨0, Nat.zero_le _, rfl, ?_, below_of_grown0 HG1.out⟩
    have := HO1.out
    rw [toList_madeCells_one] at this
    simpa using this
  case round =>
    obtain ⟨j, hj, rfl, ho, hb⟩ := hrel
    by_cases hlt : j < n
    · rcases HR.out with h0 | ⟨b, o, rfl, h3, h4⟩
      · omega
      · have hc := (hb.cell (p := ⟨b, o + j, none⟩) h3).trans (h4 j (by have := HL.out; omega))
        have c1 := ho.cellAt j (by omega)
        have c2 : ((xs.take j ++ List.replicate (n - j) 0).map (Value.int .u8))[j]? = some (.int .u8 0) := by
          have hlx := HL.out
          have hlen : ((xs.take j).map (Value.int .u8)).length = j := by rw [List.length_map, List.length_take]; omega
          rw [List.map_append, List.getElem?_append_right (by rw [hlen]; exact Nat.le_refl _), hlen, Nat.sub_self, List.map_replicate, List.getElem?_replicate, if_pos (by omega)]
        rw [c2] at c1
        have c3 := ho.frozenAt j
        have HO := Lib.hid ho
        have HB := Lib.hid hb
        have hs := (ho.stored j (.int .u8 (xs.getD j 0))).1
        rw [copy_step j n xs HL.out hlt] at hs
        obtain ⟨z, hz⟩ : ∃ z, xs.getD j 0 = z := ⟨_, rfl⟩
        rw [hz] at hs hc
        have HS := Lib.hid hs
        clear c2 h4 ho hb hs hz
        go_wp2
        go_roundw
        case rel => exact ⟨j + 1, by omega, by go_num, HS.out, HB.out.setCell (p := ⟨w.heap.size, j, none⟩) (Nat.le_refl _) _⟩
        case measure => simp [intOf]; omega
    · obtain rfl : j = n := by omega
      have HO := Lib.hid ho
      have HB := Lib.hid hb
      clear ho hb
      go_wp2
      go_ret
      refine ⟨_, _, _, rfl, ?_, HB.out⟩
      have := HO.out
      have hl := HL.out
      subst hl
      simpa using this

/-- a local struct of three cells, in block b -/
structure Var3 (w : World) (b : Nat) (x y z : Value) : Prop where
  lt : b < w.heap.size
  c0 : w.cell? ⟨b, 0, none⟩ = some x
  c1 : w.cell? ⟨b, 1, none⟩ = some y
  c2 : w.cell? ⟨b, 2, none⟩ = some z
theorem Var3.below {w w1 : World} {b : Nat} {x y z : Value} (h : Var3 w b x y z) (hb : Below w.heap.size w w1) : Var3 w1 b x y z :=
  ⟨Nat.lt_of_lt_of_le h.lt hb.size, (hb.cell (by exact h.lt)).trans h.c0, (hb.cell (by exact h.lt)).trans h.c1, (hb.cell (by exact h.lt)).trans h.c2⟩
theorem Var3.new (w : World) (t : TypeId) (x y z : Value) : Var3 (w.alloc (.cells #[x, y, z] t)) w.heap.size x y z := ⟨by simp, by simp, by simp, by simp⟩
theorem Var3.alloc {w : World} {b : Nat} {x y z : Value} (h : Var3 w b x y z) (o : Obj) : Var3 (w.alloc o) b x y z := h.below (below1 w o)
end Go.Proofs.YtbfjhjkllaceaaaGreatDoor

/- The draws of chapter 6. -/
namespace Go.Proofs.YtbfjhjkllaceaaaGreatDoor
open Go.ChangeShapes Go.WideShapes Go.ChangeAt Go.RowKit
set_option linter.unusedVariables false

theorem getD_all {P : Int → Prop} {l : List Int} (h : ∀ y ∈ l, P y) (h0 : P 0) : ∀ i, P (l.getD i 0) := by
  intro i
  rw [List.getD_eq_getElem?_getD]
  cases e : l[i]? with
  | none => exact h0
  | some y => exact h y (List.mem_of_getElem? e)
theorem packL_pos (l : List It) : 1 ≤ (packL l).length := by
  have := vput_pos (strsOf l).length
  unfold packL
  simp only [List.length_append]
  omega
theorem Row.put {w : World} {g n c r : Nat} {ys : List Int} {v : Int} (h : Row w .u8 (.slice (some ⟨g, 0, none⟩) n c) ys) (hn : ys.length = n) (hr : r < n) : Row (w.setCell ⟨g, r, none⟩ (.int .u8 v)) .u8 (.slice (some ⟨g, 0, none⟩) n c) (ys.set r v) := by
  rcases h with ⟨hv, _⟩ | ⟨b, o, cap, hv, h1, h2, h3, h4⟩
  · simp at hv
  · simp only [Value.slice.injEq, Option.some.injEq, Addr.mk.injEq, and_true] at hv
    obtain ⟨⟨rfl, rfl⟩, _, rfl⟩ := hv
    refine .inr ⟨g, 0, c, by rw [List.length_set, hn], by rw [List.length_set]; exact h1, h2, by simpa using h3, fun i hi => ?_⟩
    rw [List.length_set] at hi
    rw [Nat.zero_add]
    have hi2 := h4 i hi
    rw [Nat.zero_add] at hi2
    by_cases e : i = r
    · subst e
      rw [World.cell?_setCell_same _ _ _ hi2, List.getD_eq_getElem?_getD, List.getElem?_set_self hi]; rfl
    · rw [set_off (by omega), hi2, List.getD_eq_getElem?_getD, List.getD_eq_getElem?_getD, List.getElem?_set_ne (by omega)]
theorem Row.cut {w : World} {k : IntKind} {b l c : Nat} {ys : List Int} (h : Row w k (.slice (some ⟨b, 0, none⟩) l c) ys) (m : Nat) (hm : m ≤ l) : Row w k (.slice (some ⟨b, 0, none⟩) m c) (ys.take m) := by
  rcases h with ⟨hv, _⟩ | ⟨g, o, cap, hv, h1, h2, h3, h4⟩
  · simp at hv
  · simp only [Value.slice.injEq, Option.some.injEq, Addr.mk.injEq, and_true] at hv
    obtain ⟨⟨rfl, rfl⟩, rfl, rfl⟩ := hv
    have hl : (ys.take m).length = m := by rw [List.length_take]; omega
    refine .inr ⟨b, 0, c, by rw [hl], by rw [hl]; omega, h2, h3, fun i hi => ?_⟩
    rw [h4 i (by omega), List.getD_eq_getElem?_getD, List.getD_eq_getElem?_getD, List.getElem?_take, if_pos (by omega)]
theorem set_byte {ys : List Int} (h : ∀ i, 0 ≤ ys.getD i 0 ∧ ys.getD i 0 ≤ 255) {r : Nat} {v : Int} (hv : 0 ≤ v ∧ v ≤ 255) : ∀ i, 0 ≤ (ys.set r v).getD i 0 ∧ (ys.set r v).getD i 0 ≤ 255 := by
  intro i
  rw [List.getD_eq_getElem?_getD, List.getElem?_set]
  by_cases e : r = i
  · rw [if_pos e]
    split
    · exact hv
    · simp
  · rw [if_neg e, ← List.getD_eq_getElem?_getD]
    exact h i
theorem take_byte {ys : List Int} (h : ∀ i, 0 ≤ ys.getD i 0 ∧ ys.getD i 0 ≤ 255) (m : Nat) : ∀ i, 0 ≤ (ys.take m).getD i 0 ∧ (ys.take m).getD i 0 ≤ 255 := by
  intro i
  rw [List.getD_eq_getElem?_getD, List.getElem?_take]
  split
  · rw [← List.getD_eq_getElem?_getD]; exact h i
  · simp
theorem snoc_byte {ys : List Int} (h : ∀ i, 0 ≤ ys.getD i 0 ∧ ys.getD i 0 ≤ 255) : ∀ i, 0 ≤ (ys ++ [0]).getD i 0 ∧ (ys ++ [0]).getD i 0 ≤ 255 := by
  intro i
  rw [List.getD_eq_getElem?_getD, List.getElem?_append]
  split
  · rw [← List.getD_eq_getElem?_getD]; exact h i
  · cases i - ys.length <;> simp
theorem repl_byte (k : Nat) : ∀ i, 0 ≤ (List.replicate k (0 : Int)).getD i 0 ∧ (List.replicate k (0 : Int)).getD i 0 ≤ 255 := by
  intro i
  rw [List.getD_eq_getElem?_getD, List.getElem?_replicate]
  split <;> simp

/-- a bent tree is drawn of a code -/
def TopTree (w : World) (e : Ending) (w' : World) : Prop := ∃ (x : Option Addr) (m q : Nat) (l : List It), e = .returned (.slice x m q) ∧ ItsAt w' x m q l ∧ BentIts l ∧ Below w.heap.size w w'
theorem drawPackTree_any (a : Option Addr) (n c : Nat) (xs : List Int) (w : World) (h : CodeAt w a n c xs) :
    Calls Tryz.prog 6 #[.slice a n c] w (TopTree w) := by
  have HC := Lib.hid h
  unfold TopTree
  clear h
  go_enter Tryz.func6, Tryz.ntmps6
  go_wp2_with fail
  refine (source_any HC.out).mono ?_
  rintro e w1 ⟨rfl, hs, hb⟩
  have HS := Lib.hid hs
  have HB := Lib.hid hb
  clear hs hb
  go_wp2_with fail
  refine (l4Bent_any w.heap.size a n c xs 0 (by decide) _ HS.out).mono ?_
  rintro e w2 ⟨x, m, q, l, rfl, hi, hl, hg⟩
  have HI := Lib.hid hi
  have HG := Lib.hid (below_step HB.out hg (Nat.le_refl _))
  clear hi hg
  go_wp2
  go_ret
  exact ⟨x, m, q, l, rfl, HI.out, hl, HG.out⟩
theorem drawStringsOf_any (a : Option Addr) (n c : Nat) (xs : List Int) (w : World) (h : CodeAt w a n c xs) :
    Calls Tryz.prog 10 #[.slice a n c] w (TopTree w) := by
  have HC := Lib.hid h
  unfold TopTree
  clear h
  go_enter Tryz.func10, Tryz.ntmps10
  go_wp2_with fail
  refine (source_any HC.out).mono ?_
  rintro e w1 ⟨rfl, hs, hb⟩
  have HS := Lib.hid hs
  have HB := Lib.hid hb
  clear hs hb
  go_wp2_with fail
  refine (l4Bent_any w.heap.size a n c xs 0 (by decide) _ HS.out).mono ?_
  rintro e w2 ⟨x, m, q, l, rfl, hi, hl, hg⟩
  have HI := Lib.hid hi
  have HG := Lib.hid (below_step HB.out hg (Nat.le_refl _))
  clear hi hg
  go_wp2
  go_ret
  exact ⟨x, m, q, l, rfl, HI.out, hl, HG.out⟩

end Go.Proofs.YtbfjhjkllaceaaaGreatDoor
