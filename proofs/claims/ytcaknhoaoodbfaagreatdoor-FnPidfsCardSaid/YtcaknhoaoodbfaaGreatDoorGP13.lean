/- Bent trees of one's own: what the changes leave owned. -/
import Derived.Test.YtcaknhoaoodbfaaGreatDoorGP12
import Derived.Test.YtcaknhoaoodbfaaGreatDoorGP7
import Derived.Test.YtcaknhoaoodbfaaGreatDoorGP11
import Derived.Test.YtcaknhoaoodbfaaGreatDoorGP3
namespace Go.Proofs.YtcaknhoaoodbfaaGreatDoor
open Go.ChangeShapes Go.WideShapes Go.ChangeAt Go.RowKit
set_option linter.unusedVariables false
theorem GrowIts.bentOwn {W : World} {B : Nat} {a : Option Addr} {n c : Nat} {l : List It} {A : Nat → Option Addr} {N C : Nat → Nat} (h : GrowIts W B (.slice a n c) n l A N C) (hb : BentIts l) : OwnIts W B W.heap.size a n c l :=
  h.own (by have := hb.1; have := h.len; omega) (fun i _ => by have := hb.2 i; exact ⟨⟨by have := this.depth; omega, by have := this.depth; omega⟩, by have := this.sizes; omega, by have := this.sizes; omega, by have := this.sizes; omega⟩)
theorem its_field_o {w : World} {B g m c : Nat} {l : List It} {A : Nat → Option Addr} {N C : Nat → Nat} (h : GrowR w B (.slice (some ⟨g, 0, none⟩) m c) m l A N C) (hl : BentIts l) {r f : Nat} (hr : r < m) (hf : f < 4) {y : It} (hb : BentIt y)
    {u : Value} (hu : u = if f = 0 then .int .i64 y.depth else if f = 1 then .string y.text else if f = 2 then .string y.space else .string y.name)
    (h0 : f = 0 ∨ y.depth = (l.getD r dIt).depth) (h1 : f = 1 ∨ y.text = (l.getD r dIt).text) (h2 : f = 2 ∨ y.space = (l.getD r dIt).space) (h3 : f = 3 ∨ y.name = (l.getD r dIt).name) (h4 : y.attrs = (l.getD r dIt).attrs) :
    OwnIts (w.setCell ⟨g, r * 5 + f, none⟩ u) B (w.setCell ⟨g, r * 5 + f, none⟩ u).heap.size (some ⟨g, 0, none⟩) m c (l.set r y) ∧ BentIts (l.set r y) :=
  ⟨(h.g.put hr hf hu h0 h1 h2 h3 h4).bentOwn (bent_set hl hb), bent_set hl hb⟩
theorem flatI_setA {l : List It} {A : Nat → Option Addr} {N C : Nat → Nat} {r : Nat} (hr : r < l.length) {y : It} (a : Option Addr) (n cc : Nat)
    (h0 : y.depth = (l.getD r dIt).depth) (h1 : y.text = (l.getD r dIt).text) (h2 : y.space = (l.getD r dIt).space) (h3 : y.name = (l.getD r dIt).name) : (flatI l A N C).set (r * 5 + 4) (.slice a n cc) = flatI (l.set r y) (putA r a A) (putA r n N) (putA r cc C) := by
  apply List.ext_getElem?
  intro j
  have hl : (l.set r y).length = l.length := List.length_set ..
  by_cases hj : j < l.length * 5
  · rw [flatI_get _ _ _ _ _ (by rw [hl]; exact hj), List.getElem?_set]
    have g : (l.set r y).getD r dIt = y := by rw [List.getD_eq_getElem?_getD, List.getElem?_set, if_pos rfl, if_pos hr]; rfl
    by_cases e : r * 5 + 4 = j
    · subst e
      rw [if_pos rfl, if_pos (by rw [flatI_length]; exact hj), cellI_five r 4 (by omega)]
      unfold putA
      simp
    · rw [if_neg e, flatI_get _ _ _ _ _ hj]
      obtain ⟨i, q, hq, rfl⟩ : ∃ i q, q < 5 ∧ j = i * 5 + q := ⟨j / 5, j % 5, by omega, by omega⟩
      rw [cellI_five i q hq, cellI_five i q hq]
      by_cases ei : i = r
      · subst ei
        rw [g]
        rcases q with _ | _ | _ | _ | _ | q
        · rw [h0]; rfl
        · rw [h1]; rfl
        · rw [h2]; rfl
        · rw [h3]; rfl
        · omega
        · omega
      · have g : (l.set r y).getD i dIt = l.getD i dIt := by rw [List.getD_eq_getElem?_getD, List.getElem?_set, if_neg (fun e => ei e.symm), ← List.getD_eq_getElem?_getD]
        rw [g]
        unfold putA
        rw [if_neg ei, if_neg ei, if_neg ei]
  · rw [List.getElem?_eq_none (by rw [List.length_set, flatI_length]; omega), List.getElem?_eq_none (by rw [flatI_length, hl]; omega)]
theorem its_attrs_o {w w1 w2 : World} {B g m c : Nat} {l : List It} {A : Nat → Option Addr} {N C : Nat → Nat} (h : GrowR w B (.slice (some ⟨g, 0, none⟩) m c) m l A N C) (hl : BentIts l) {r : Nat} (hr : r < m)
    (hb1 : Below w.heap.size w w1) {row : Option Nat} (hg : w1.grownBy w2 row) (hrow : ∀ j, row = some j → (Value.slice (A r) (N r) (C r)).ownBlock = some j)
    {a : Option Addr} {n cc : Nat} {es : List At} (hown : w2.ownsRow B 65 2 (.slice a n cc) n (flatA es)) (hne : ∀ j, (Value.slice a n cc).ownBlock = some j → j ≠ g) (hn : n ≤ 6) (hes : ShortAts es)
    (hat : (Value.slice a n cc).ownBlock = (Value.slice (A r) (N r) (C r)).ownBlock ∨ ∃ j, (Value.slice a n cc).ownBlock = some j ∧ w.heap.size ≤ j) :
    OwnIts (w2.setCell ⟨g, r * 5 + 4, none⟩ (.slice a n cc)) B (w2.setCell ⟨g, r * 5 + 4, none⟩ (.slice a n cc)).heap.size (some ⟨g, 0, none⟩) m c (l.set r ⟨(l.getD r dIt).depth, (l.getD r dIt).text, (l.getD r dIt).space, (l.getD r dIt).name, es⟩) ∧ BentIts (l.set r ⟨(l.getD r dIt).depth, (l.getD r dIt).text, (l.getD r dIt).space, (l.getD r dIt).name, es⟩) := by
  have hlen := h.g.len
  have hgl := (h.g.row.lt g rfl).2
  have ho : Only (fun i => (Value.slice (A r) (N r) (C r)).ownBlock = some i) w w2 := (Only.below hb1).trans ((Only.grown hg).mono fun i e => hrow i e.symm)
  have hats := ownAts_of hown (by omega) (fun i => by have := hes i; omega)
  have hbr := hl.2 r
  have hel : es.length = n := hats.ats.len
  have hbent : BentIts (l.set r ⟨(l.getD r dIt).depth, (l.getD r dIt).text, (l.getD r dIt).space, (l.getD r dIt).name, es⟩) := bent_set hl ⟨hbr.depth, hbr.sizes, by simp only; omega, hes⟩
  have hrow2 := owns_only h.g.row ho (fun q hq hp => by
    have : q = g := by simpa [Value.ownBlock] using hq.symm
    subst this
    exact h.off r (by omega) q hp rfl)
  have hst := hrow2.stored (r * 5 + 4) (.slice a n cc)
  rw [flatI_setA (y := ⟨(l.getD r dIt).depth, (l.getD r dIt).text, (l.getD r dIt).space, (l.getD r dIt).name, es⟩) (by omega) a n cc rfl rfl rfl rfl] at hst
  have hos := Only.grown hst.2
  have hlt0 : ∀ i, i < m → ∀ x, A i = some x → N i ≠ 0 → x.block < w.heap.size := fun i hi x hx hne => ((h.g.ats i (by omega)).1.in hx hne).2
  have hsz := hst.2.size
  have hs2 := ho.size
  have hblk : ∀ (a : Option Addr) (n cc : Nat) (x : Addr), a = some x → (Value.slice a n cc).ownBlock = some x.block := fun a n cc x e => by subst e; rfl
  refine ⟨(⟨hst.1, fun i hi => ?_, fun i hi x hx hxn => ?_, fun i j hi hj hij x y hx hy hxn hyn => ?_⟩ : GrowIts (w2.setCell ⟨g, r * 5 + 4, none⟩ (.slice a n cc)) B (.slice (some ⟨g, 0, none⟩) m c) m (l.set r ⟨(l.getD r dIt).depth, (l.getD r dIt).text, (l.getD r dIt).space, (l.getD r dIt).name, es⟩) (putA r a A) (putA r n N) (putA r cc C)).bentOwn hbent, hbent⟩
  · rw [List.length_set] at hi
    unfold putA
    by_cases e : i = r
    · subst e
      have hx : (l.set i ⟨(l.getD i dIt).depth, (l.getD i dIt).text, (l.getD i dIt).space, (l.getD i dIt).name, es⟩).getD i dIt = ⟨(l.getD i dIt).depth, (l.getD i dIt).text, (l.getD i dIt).space, (l.getD i dIt).name, es⟩ := by rw [List.getD_eq_getElem?_getD, List.getElem?_set_self (by omega)]; rfl
      rw [if_pos rfl, if_pos rfl, if_pos rfl, hx]
      have h1 := hats.only hos fun x hx hxn hp => hne x.block (hblk _ _ _ _ hx) (by simpa using hp)
      refine ⟨⟨h1.ats, h1.own.imp id fun ⟨b, g1, g2, g3, g4⟩ => ⟨b, g1, g2, by omega, g4⟩⟩, fun e => ?_⟩
      subst e
      rcases hown.2 with ⟨hv, _⟩ | ⟨g', cap, cur, hv, _⟩
      · simp only [Value.slice.injEq] at hv; exact hv.2.2
      · cases hv
    · have hx : (l.set r ⟨(l.getD r dIt).depth, (l.getD r dIt).text, (l.getD r dIt).space, (l.getD r dIt).name, es⟩).getD i dIt = l.getD i dIt := by rw [List.getD_eq_getElem?_getD, List.getElem?_set_ne (by omega), ← List.getD_eq_getElem?_getD]
      rw [if_neg e, if_neg e, if_neg e, hx]
      have h0 := (h.g.ats i hi).1.only ho fun x hx hxn hp => h.each i r hi (by omega) e _ (hblk _ _ _ _ hx) hp
      have h1 := h0.only hos fun x hx hxn hp => h.g.apart i hi x hx hxn (by simp only [Option.some.injEq] at hp; simp [Value.ownBlock, hp])
      exact ⟨⟨h1.ats, h1.own.imp id fun ⟨b, g1, g2, g3, g4⟩ => ⟨b, g1, g2, by omega, g4⟩⟩, (h.g.ats i hi).2⟩
  · rw [List.length_set] at hi
    unfold putA at hx hxn
    by_cases e : i = r
    · rw [if_pos e] at hx hxn
      intro hq
      exact hne x.block (hblk _ _ _ _ hx) (by simpa [Value.ownBlock] using hq.symm)
    · rw [if_neg e] at hx hxn
      exact h.g.apart i hi x hx hxn
  · rw [List.length_set] at hi hj
    unfold putA at hx hy hxn hyn
    have key : ∀ j, j < m → j ≠ r → ∀ x y, a = some x → A j = some y → n ≠ 0 → N j ≠ 0 → x.block ≠ y.block := fun j hj hjr x y hx hy hxn hyn he => by
      have h1 := hblk a n cc x hx
      have h2 := hblk (A j) (N j) (C j) y hy
      rcases hat with e | ⟨q, e, hq⟩
      · rw [h1] at e
        exact h.each r j (by omega) (by omega) (fun e => hjr e.symm) x.block e.symm (by rw [h2, he])
      · rw [h1] at e
        have := hlt0 j hj y hy hyn
        simp only [Option.some.injEq] at e
        omega
    by_cases e : i = r
    · rw [if_pos e] at hx hxn
      rw [if_neg (by omega)] at hy hyn
      exact key j (by omega) (by omega) x y hx hy hxn hyn
    · rw [if_neg e] at hx hxn
      by_cases e2 : j = r
      · rw [if_pos e2] at hy hyn
        exact fun he => key i (by omega) e y x hy hx hyn hxn he.symm
      · rw [if_neg e2] at hy hyn
        exact h.g.each i j hi hj hij x y hx hy hxn hyn
theorem zeros_flat (k : Nat) {zs : List Value} (hlen : zs.length = k * 5)
    (hzs : ∀ i q, i < k → q < 5 → zs[i * 5 + q]? = some (if q = 0 then .int .i64 0 else if q = 1 then .string ByteArray.empty else if q = 2 then .string ByteArray.empty else if q = 3 then .string ByteArray.empty else .slice none 0 0)) :
    zs = flatI (List.replicate k dIt) (fun _ => none) (fun _ => 0) (fun _ => 0) := by
  apply List.ext_getElem?
  intro j
  by_cases hj : j < k * 5
  · obtain ⟨i, q, hq, rfl⟩ : ∃ i q, q < 5 ∧ j = i * 5 + q := ⟨j / 5, j % 5, by omega, by omega⟩
    have hg : (List.replicate k dIt).getD i dIt = dIt := by rw [List.getD_eq_getElem?_getD, List.getElem?_replicate]; split <;> rfl
    rw [hzs i q (by omega) hq, flatI_get _ _ _ _ _ (by rw [List.length_replicate]; exact hj), cellI_five i q hq, hg]
    rfl
  · rw [List.getElem?_eq_none (by omega), List.getElem?_eq_none (by rw [flatI_length, List.length_replicate]; omega)]
theorem grow_more {w w2 : World} {B n k : Nat} {v v' : Value} {l : List It} {A : Nat → Option Addr} {N C : Nat → Nat} (h : GrowIts w B v n l A N C) {zs : List Value}
    (hzs : ∀ i q, i < k → q < 5 → zs[i * 5 + q]? = some (if q = 0 then .int .i64 0 else if q = 1 then .string ByteArray.empty else if q = 2 then .string ByteArray.empty else if q = 3 then .string ByteArray.empty else .slice none 0 0)) (hB : B ≤ w.heap.size)
    (hr : w2.ownsRow B 67 5 v' (n + k) (flatI l A N C ++ zs)) (hg : w.grownBy w2 v.ownBlock) (hv : v'.ownBlock = v.ownBlock ∨ v'.ownBlock = some w.heap.size) :
    GrowIts w2 B v' (n + k) (l ++ List.replicate k dIt) (joinA l.length A (fun _ => none)) (joinA l.length N (fun _ => 0)) (joinA l.length C (fun _ => 0)) := by
  have hlen := h.len
  have hz : zs.length = k * 5 := by
    have := hr.1
    rw [List.length_append, flatI_length, hlen, Nat.add_mul] at this
    omega
  rw [zeros_flat k hz hzs] at hr
  exact h.joinO (B2 := B) (l2 := List.replicate k dIt) (by rw [List.length_replicate]) (fun i hi => ⟨by
    have hg : (List.replicate k dIt).getD i dIt = dIt := by rw [List.getD_eq_getElem?_getD, List.getElem?_replicate]; split <;> rfl
    rw [hg]
    exact noAts0 _ _ _, fun _ => rfl⟩) (fun i j hi hj hij x y hx => by cases hx) (Nat.le_refl _) (Nat.le_refl _) hB hr hg (hv.imp id fun e => ⟨_, e, Nat.le_refl _⟩)
theorem more_bent {l : List It} (h : BentIts l) {k : Nat} (hk : l.length + k ≤ 100) : BentIts (l ++ List.replicate k dIt) := ⟨by rw [List.length_append, List.length_replicate]; exact hk, fun i => by
  rw [List.getD_eq_getElem?_getD]
  by_cases hi : i < l.length
  · rw [List.getElem?_append_left hi, ← List.getD_eq_getElem?_getD]
    exact h.2 i
  · rw [List.getElem?_append_right (by omega), List.getElem?_replicate]
    split <;> exact dIt_drawn.bent⟩
theorem its_more_o {w w2 : World} {B g m c k : Nat} {l : List It} {A : Nat → Option Addr} {N C : Nat → Nat} (h : GrowR w B (.slice (some ⟨g, 0, none⟩) m c) m l A N C) (hl : BentIts l) (hk : m + k ≤ 100) {zs : List Value}
    (hzs : ∀ i q, i < k → q < 5 → zs[i * 5 + q]? = some (if q = 0 then .int .i64 0 else if q = 1 then .string ByteArray.empty else if q = 2 then .string ByteArray.empty else if q = 3 then .string ByteArray.empty else .slice none 0 0))
    {a : Option Addr} {q' : Nat} (hown : w2.ownsRow B 67 5 (.slice a (m + k) q') (m + k) (flatI l A N C ++ zs)) (hg : w.grownBy w2 (some g)) (hB : B ≤ w.heap.size) (hat : (Value.slice a (m + k) q').ownBlock = some g ∨ (Value.slice a (m + k) q').ownBlock = some w.heap.size) :
    OwnIts w2 B w2.heap.size a (m + k) q' (l ++ List.replicate k dIt) ∧ BentIts (l ++ List.replicate k dIt) := by
  have hb := more_bent (k := k) hl (by have := h.g.len; omega)
  exact ⟨(grow_more h.g hzs hB hown hg hat).bentOwn hb, hb⟩
set_option linter.unusedSimpArgs false
def PrBent (w : World) (b : Nat) (a : Option Addr) (n c : Nat) (xs : List Int) (k : Nat) (en : Ending) (w' : World) : Prop :=
  ∃ (y : Pr) (x : Addr) (m q : Nat) (A : Nat → Option Addr) (N C : Nat → Nat) (k' : Nat), en = .returned (.agg #[.int .i64 y.kind, .string y.sender, .string y.goal, .int .i64 y.shown, .string y.status, .int .i64 y.prio, .slice (some x) m q]) ∧ GrowIts w' w.heap.size (.slice (some x) m q) m y.more A N C ∧ m ≤ 30 ∧ PrD y ∧ k' ≤ k + 3100 ∧ Src w' b a n c xs k' ∧ w.grownBy w' (some b)
theorem D7.regrow {w V W W' : World} {b : Nat} {a : Option Addr} {n c : Nat} {xs : List Int} {k x : Nat} {v0 v1 v2 v3 v4 v5 v6 : Value} (h : D7 w V W b a n c xs k x v0 v1 v2 v3 v4 v5 v6) {row : Option Nat} (hg : W.grownBy W' row) (hr : ∀ g, row = some g → w.heap.size < g ∧ g ≠ x) : D7 w W' W' b a n c xs k x v0 v1 v2 v3 v4 v5 v6 := by
  have hb := h.hb
  exact ⟨hb, h.hx, h.res.grown hg (fun e => by have := hr _ e.symm; omega), h.box.grown hg (fun e => (hr _ e.symm).2 rfl), h.src.grown hg (fun j e => by have := hr _ e; omega), grown_mix h.gr hg (fun g e => by have := hr _ e; omega), Only.refl W'⟩
theorem GrowIts.onlyX {w w' : World} {P : Nat → Prop} {B : Nat} {v : Value} {n : Nat} {l : List It} {A : Nat → Option Addr} {N C : Nat → Nat} (h : GrowIts w B v n l A N C) (ho : Only P w w') (h1 : ∀ g, v.ownBlock = some g → ¬ P g) (h2 : ∀ i, i < l.length → ∀ y, A i = some y → N i ≠ 0 → ¬ P y.block) : GrowIts w' B v n l A N C := by
  refine ⟨owns_only h.row ho h1, fun i hi => ⟨?_, (h.ats i hi).2⟩, h.apart, h.each⟩
  have h3 := (h.ats i hi).1.only ho fun x hx hne => h2 i hi x hx hne
  exact ⟨h3.ats, h3.own.imp id fun ⟨b, g1, g2, g3, g4⟩ => ⟨b, g1, g2, by have := ho.size; omega, g4⟩⟩
theorem step_zeros {P : Program} {ops : Array Oper} {o : Oper} {a : Act} {w : World} {K : Act → World → Prop} {Q : Exit → Act → World → Prop} {E : Prop} (hw : Region.wanted o (yielded ops a.tmps) = true) (s x : Operand) (t tn : TypeId)
    (ho : o.op = .call { callee := .builtin .append, args := #[s, x], argTypes := #[t, tn] })
    (base : Nat) (e : TypeId) (i : TypeInfo) (z : Value) (size bytes : Nat) (kq kn : IntKind) (ht : P.underlying t = some (.slice e)) (htn : P.underlying tn = some (.int kn)) (hi : P.info? e = some i) (hz : i.zero = some z)
    (hsize : i.size = size) (hby : i.bytes = bytes) (hzs : z.cells.size = size) (hsz : 0 < size)
    (v : Value) (n : Nat) (xs : List Value) (hs : a.eval s = v) (hown : w.ownsRow base e size v n xs) (hn0 : 0 < n ∨ ∃ y c, v = .slice (some y) n c)
    (k : Nat) (hx : a.eval x = .int kq k) (h0 : 0 < k) (h1 : ∀ u ∈ (Builtin.zeroCells z.cells k).toList, u.oneCell' = true)
    (h63 : n + k ≤ maxLen) (hbytes : (n + k) * bytes ≤ 140737488355328) (hbase : base ≤ w.heap.size)
    (h : ∀ v' w', w'.ownsRow base e size v' (n + k) (xs ++ (Builtin.zeroCells z.cells k).toList) → w.grownBy w' v.ownBlock → (v'.ownBlock = v.ownBlock ∨ v'.ownBlock = some w.heap.size) → K (a.put o.dst v') w') :
    if Region.wanted o (yielded ops a.tmps) = true then Oper.wp P o a w K Q else E := by
  rw [if_pos hw]
  obtain ⟨v', w', hr, h2, h3, h4⟩ := run_append_own_zeros (P := P) w base t tn o.type e i z size bytes kq kn ht htn hi hz hsize hby hzs hsz v n xs hown hn0 k h0 h1 h63 hbytes hbase
  unfold Oper.wp execOp
  simp only [ho, resolve, invoke, builtin, Sem.run_bind, Sem.run_pure, Result.andThen_ok, List.map_toArray, List.map_cons, List.map_nil, hs, hx, hr]
  exact h v' w' h2 h3 h4
theorem drawn_more {l : List It} (h : ∀ i, DrawnIt (l.getD i dIt)) (k : Nat) : ∀ i, DrawnIt ((l ++ List.replicate k dIt).getD i dIt) := drawn_append h (fun i => by rw [List.getD_eq_getElem?_getD, List.getElem?_replicate]; split <;> exact dIt_drawn)
set_option maxRecDepth 100000 in
set_option maxHeartbeats 2000000 in
theorem l7Bent_any (b : Nat) (a : Option Addr) (n c : Nat) (xs : List Int) (k : Nat) (hk : k + 12000 < 1000000) (w : World) (h : Src w b a n c xs k) :
    Calls Tryz.prog 50 #[.pointer (some ⟨b, 0, none⟩)] w (PrBent w b a n c xs k) := by
  obtain ⟨i0, hi, hz0, hi1, hz2⟩ := info_parts itemInfo
  have hb0 := h.lt
  have hbA := below1 w (.cells #[.int .i64 0, .string ⟨#[]⟩, .string ⟨#[]⟩, .int .i64 0, .string ⟨#[]⟩, .int .i64 0, .slice none 0 0] 26)
  have XR := Lib.hid (X7.new w 26 (.int .i64 0) (.string ⟨#[]⟩) (.string ⟨#[]⟩) (.int .i64 0) (.string ⟨#[]⟩) (.int .i64 0) (.slice none 0 0))
  have KN := Lib.hid (fun (k : Nat) (m : Int) (hm0 : 1 ≤ m) (hm : m ≤ 1000000000) (hk : k < 1000000) (W : World) (h : Src W b a n c xs k) => l1Next_any b a n c xs k m hm0 hm hk W h)
  unfold NextRes at KN
  have KD := l7Draw_any b a n c xs k (by omega) _ (h.below hbA)
  unfold PrDrawn at KD
  have HG := Lib.hid (grown_of_below hbA (some b))
  have hsz0 : (w.alloc (.cells #[.int .i64 0, .string ⟨#[]⟩, .string ⟨#[]⟩, .int .i64 0, .string ⟨#[]⟩, .int .i64 0, .slice none 0 0] 26)).heap.size = w.heap.size + 1 := by simp
  clear h hbA
  go_enter Tryz.func50, Tryz.ntmps50
  go_wp2_with fail
  refine KD.mono ?_
  clear KD
  rintro e V ⟨⟨yk, yf, yt, ys, yu, yp, l⟩, x, m, q, A, N, C, k1, rfl, hG, hm8, hPD, hk1, hs1, hg1⟩
  rw [hsz0] at hG
  dsimp only at hG
  have GM := Lib.hid hG
  have hlm : l.length = m := hG.len
  obtain ⟨⟨pk1, pk2⟩, pf, pt, ⟨ps1, ps2⟩, pu, ⟨pp1, pp2⟩, pfew, pmore⟩ := hPD
  dsimp only at pk1 pk2 pf pt ps1 ps2 pu pp1 pp2 pfew pmore
  have HD5 := Lib.hid pmore
  have DI := Lib.hid (D7.init 26 (.int .i64 yk) (.string yf) (.string yt) (.int .i64 ys) (.string yu) (.int .i64 yp) (.slice (some x) m q) hb0 (XR.out.grown hg1 (by intro e; injection e with e; omega)) hs1 (grown_trans_row HG.out hg1))
  have hVw : w.heap.size < V.heap.size := by have := hg1.size; omega
  clear hG pmore hs1 hg1 XR HG pfew
  go_wp2_with fail
  generalize hW1 : V.alloc (.cells #[.int .i64 yk, .string yf, .string yt, .int .i64 ys, .string yu, .int .i64 yp, .slice (some x) m q] 26) = W1 at DI
  refine (KN.out k1 14 (by decide) (by decide) (by omega) _ DI.out.src).mono ?_
  rintro e W2 ⟨t, rfl, ht, hs, hg⟩
  have D2 := Lib.hid (DI.out.call hs hg)
  clear hs hg DI hW1
  have htn : (0 : Int) ≤ (t : Int) := by omega
  have hxs : V.heap.size < w.heap.size + 1 ∨ V.heap.size ≤ V.heap.size := .inr (Nat.le_refl _)
  obtain ⟨xp, hxp⟩ : ∃ xp, V.heap.size = xp := ⟨_, rfl⟩
  have hxs : xp < w.heap.size + 1 ∨ V.heap.size ≤ xp := .inr (by omega)
  rw [hxp] at D2 hVw
  try rw [hxp]
  generalize (t : Int) = tt at htn ⊢
  by_cases t0 : tt = 0
  · subst t0
    go_wp2_with fail
    have KP := l1Pick_any b a n c xs (k1 + 1) W2.heap.size 4 [-1, 7, 1, 3] rfl (by decide) (by decide) (by omega) _ (D2.out.src.alloc (.cells #[.int .i64 (-1), .int .i64 7, .int .i64 1, .int .i64 3] 2)) (lit_row W2 _ .i64 [-1, 7, 1, 3] 4 rfl (by decide)) (by have := D2.out.src.lt; omega)
    unfold PickRes at KP
    refine KP.mono ?_
    clear KP
    rintro e W3 ⟨d, rfl, hdm, hs, hg⟩
    have hd : -1 ≤ d ∧ d ≤ 7 := by
      simp only [List.mem_cons, List.not_mem_nil, or_false] at hdm
      omega
    obtain ⟨hd1, hd2⟩ := hd
    have D3 := Lib.hid ((D2.out.below (below1 W2 (.cells #[.int .i64 (-1), .int .i64 7, .int .i64 1, .int .i64 3] 2))).call hs hg)
    clear hs hg hdm D2
    have c0 := D3.out.box.c0
    have f0 := D3.out.box.fz 0 (by decide)
    have lx := D3.out.box.lt
    have D4 := Lib.hid (D3.out.set 0 (.int .i64 d) (by decide) ⟨rfl, rfl, rfl, rfl, rfl, rfl, rfl⟩)
    go_upto_region 17 with fail
    generalize W3.setCell ⟨xp, 0, none⟩ (.int .i64 d) = W4 at *
    clear c0 f0 lx
    obtain ⟨-, d0, d1, d2, d3, d4, d5, d6, -⟩ := D4.out.box
    obtain ⟨-, e0, e1, e2, e3, e4, e5, e6, -⟩ := D4.out.res
    have g0 := D4.out.res.fz 0 (by decide)
    have g1 := D4.out.res.fz 1 (by decide)
    have g2 := D4.out.res.fz 2 (by decide)
    have g3 := D4.out.res.fz 3 (by decide)
    have g4 := D4.out.res.fz 4 (by decide)
    have g5 := D4.out.res.fz 5 (by decide)
    have g6 := D4.out.res.fz 6 (by decide)
    obtain ⟨Zx, Zs, Zg, Zo⟩ := D4.out.done
    have z0 := Zx.c0
    have z1 := Zx.c1
    have z2 := Zx.c2
    have z3 := Zx.c3
    have z4 := Zx.c4
    have z5 := Zx.c5
    have z6 := Zx.c6
    have GI := Lib.hid (D7.its GM.out Zo hb0 (by omega) hxs)
    have ZS := Lib.hid Zs
    have ZG := Lib.hid Zg
    clear Zx Zo Zs Zg
    go_wp2
    refine bodyPost_ret (v := .agg #[.int .i64 d, .string yf, .string yt, .int .i64 ys, .string yu, .int .i64 yp, .slice (some x) m q]) (by simp [results, Tryz.results50, go_sem, z0, z1, z2, z3, z4, z5, z6, e0, e1, e2, e3, e4, e5, e6]) rfl (by unfold PrBent; exact ⟨⟨d, yf, yt, ys, yu, yp, l⟩, x, m, q, A, N, C, k1 + 1 + 1, rfl, GI.out, by omega, ⟨⟨by show -1000 ≤ (d : Int); omega, by show (d : Int) ≤ 1000; omega⟩, by show yf.size ≤ 61; omega, by show yt.size ≤ 61; omega, ⟨by show -1000 ≤ (ys : Int); omega, by show (ys : Int) ≤ 1000; omega⟩, by show yu.size ≤ 61; omega, ⟨by show -1000 ≤ (yp : Int); omega, by show (yp : Int) ≤ 1000; omega⟩, by show l.length ≤ 60; omega, HD5.out⟩, by omega, ZS.out, ZG.out⟩)
  by_cases t1 : tt = 1
  · subst t1
    go_wp2_with fail
    have KP := l1Pick_any b a n c xs (k1 + 1) W2.heap.size 3 [-1, 5, 2] rfl (by decide) (by decide) (by omega) _ (D2.out.src.alloc (.cells #[.int .i64 (-1), .int .i64 5, .int .i64 2] 2)) (lit_row W2 _ .i64 [-1, 5, 2] 3 rfl (by decide)) (by have := D2.out.src.lt; omega)
    unfold PickRes at KP
    refine KP.mono ?_
    clear KP
    rintro e W3 ⟨d, rfl, hdm, hs, hg⟩
    have hd : -1 ≤ d ∧ d ≤ 5 := by
      simp only [List.mem_cons, List.not_mem_nil, or_false] at hdm
      omega
    obtain ⟨hd1, hd2⟩ := hd
    have D3 := Lib.hid ((D2.out.below (below1 W2 (.cells #[.int .i64 (-1), .int .i64 5, .int .i64 2] 2))).call hs hg)
    clear hs hg hdm D2
    have c3 := D3.out.box.c3
    have f3 := D3.out.box.fz 3 (by decide)
    have lx := D3.out.box.lt
    have D4 := Lib.hid (D3.out.set 3 (.int .i64 d) (by decide) ⟨rfl, rfl, rfl, rfl, rfl, rfl, rfl⟩)
    go_upto_region 17 with fail
    generalize W3.setCell ⟨xp, 3, none⟩ (.int .i64 d) = W4 at *
    clear c3 f3 lx
    obtain ⟨-, d0, d1, d2, d3, d4, d5, d6, -⟩ := D4.out.box
    obtain ⟨-, e0, e1, e2, e3, e4, e5, e6, -⟩ := D4.out.res
    have g0 := D4.out.res.fz 0 (by decide)
    have g1 := D4.out.res.fz 1 (by decide)
    have g2 := D4.out.res.fz 2 (by decide)
    have g3 := D4.out.res.fz 3 (by decide)
    have g4 := D4.out.res.fz 4 (by decide)
    have g5 := D4.out.res.fz 5 (by decide)
    have g6 := D4.out.res.fz 6 (by decide)
    obtain ⟨Zx, Zs, Zg, Zo⟩ := D4.out.done
    have z0 := Zx.c0
    have z1 := Zx.c1
    have z2 := Zx.c2
    have z3 := Zx.c3
    have z4 := Zx.c4
    have z5 := Zx.c5
    have z6 := Zx.c6
    have GI := Lib.hid (D7.its GM.out Zo hb0 (by omega) hxs)
    have ZS := Lib.hid Zs
    have ZG := Lib.hid Zg
    clear Zx Zo Zs Zg
    go_wp2
    refine bodyPost_ret (v := .agg #[.int .i64 yk, .string yf, .string yt, .int .i64 d, .string yu, .int .i64 yp, .slice (some x) m q]) (by simp [results, Tryz.results50, go_sem, z0, z1, z2, z3, z4, z5, z6, e0, e1, e2, e3, e4, e5, e6]) rfl (by unfold PrBent; exact ⟨⟨yk, yf, yt, d, yu, yp, l⟩, x, m, q, A, N, C, k1 + 1 + 1, rfl, GI.out, by omega, ⟨⟨by show -1000 ≤ (yk : Int); omega, by show (yk : Int) ≤ 1000; omega⟩, by show yf.size ≤ 61; omega, by show yt.size ≤ 61; omega, ⟨by show -1000 ≤ (d : Int); omega, by show (d : Int) ≤ 1000; omega⟩, by show yu.size ≤ 61; omega, ⟨by show -1000 ≤ (yp : Int); omega, by show (yp : Int) ≤ 1000; omega⟩, by show l.length ≤ 60; omega, HD5.out⟩, by omega, ZS.out, ZG.out⟩)
  by_cases t2 : tt = 2
  · subst t2
    go_wp2_with fail
    have KP := l1Pick_any b a n c xs (k1 + 1) W2.heap.size 3 [-129, 128, 5] rfl (by decide) (by decide) (by omega) _ (D2.out.src.alloc (.cells #[.int .i64 (-129), .int .i64 128, .int .i64 5] 2)) (lit_row W2 _ .i64 [-129, 128, 5] 3 rfl (by decide)) (by have := D2.out.src.lt; omega)
    unfold PickRes at KP
    refine KP.mono ?_
    clear KP
    rintro e W3 ⟨d, rfl, hdm, hs, hg⟩
    have hd : -129 ≤ d ∧ d ≤ 128 := by
      simp only [List.mem_cons, List.not_mem_nil, or_false] at hdm
      omega
    obtain ⟨hd1, hd2⟩ := hd
    have D3 := Lib.hid ((D2.out.below (below1 W2 (.cells #[.int .i64 (-129), .int .i64 128, .int .i64 5] 2))).call hs hg)
    clear hs hg hdm D2
    have c5 := D3.out.box.c5
    have f5 := D3.out.box.fz 5 (by decide)
    have lx := D3.out.box.lt
    have D4 := Lib.hid (D3.out.set 5 (.int .i64 d) (by decide) ⟨rfl, rfl, rfl, rfl, rfl, rfl, rfl⟩)
    go_upto_region 17 with fail
    generalize W3.setCell ⟨xp, 5, none⟩ (.int .i64 d) = W4 at *
    clear c5 f5 lx
    obtain ⟨-, d0, d1, d2, d3, d4, d5, d6, -⟩ := D4.out.box
    obtain ⟨-, e0, e1, e2, e3, e4, e5, e6, -⟩ := D4.out.res
    have g0 := D4.out.res.fz 0 (by decide)
    have g1 := D4.out.res.fz 1 (by decide)
    have g2 := D4.out.res.fz 2 (by decide)
    have g3 := D4.out.res.fz 3 (by decide)
    have g4 := D4.out.res.fz 4 (by decide)
    have g5 := D4.out.res.fz 5 (by decide)
    have g6 := D4.out.res.fz 6 (by decide)
    obtain ⟨Zx, Zs, Zg, Zo⟩ := D4.out.done
    have z0 := Zx.c0
    have z1 := Zx.c1
    have z2 := Zx.c2
    have z3 := Zx.c3
    have z4 := Zx.c4
    have z5 := Zx.c5
    have z6 := Zx.c6
    have GI := Lib.hid (D7.its GM.out Zo hb0 (by omega) hxs)
    have ZS := Lib.hid Zs
    have ZG := Lib.hid Zg
    clear Zx Zo Zs Zg
    go_wp2
    refine bodyPost_ret (v := .agg #[.int .i64 yk, .string yf, .string yt, .int .i64 ys, .string yu, .int .i64 d, .slice (some x) m q]) (by simp [results, Tryz.results50, go_sem, z0, z1, z2, z3, z4, z5, z6, e0, e1, e2, e3, e4, e5, e6]) rfl (by unfold PrBent; exact ⟨⟨yk, yf, yt, ys, yu, d, l⟩, x, m, q, A, N, C, k1 + 1 + 1, rfl, GI.out, by omega, ⟨⟨by show -1000 ≤ (yk : Int); omega, by show (yk : Int) ≤ 1000; omega⟩, by show yf.size ≤ 61; omega, by show yt.size ≤ 61; omega, ⟨by show -1000 ≤ (ys : Int); omega, by show (ys : Int) ≤ 1000; omega⟩, by show yu.size ≤ 61; omega, ⟨by show -1000 ≤ (d : Int); omega, by show (d : Int) ≤ 1000; omega⟩, by show l.length ≤ 60; omega, HD5.out⟩, by omega, ZS.out, ZG.out⟩)
  by_cases t3 : tt = 3
  · subst t3
    have c4 := D2.out.box.c4
    have f4 := D2.out.box.fz 4 (by decide)
    have lx := D2.out.box.lt
    have D4 := Lib.hid (D2.out.set 4 (.string ⟨#[1]⟩) (by decide) ⟨rfl, rfl, rfl, rfl, rfl, rfl, rfl⟩)
    go_upto_region 17 with fail
    generalize W2.setCell ⟨xp, 4, none⟩ (.string ⟨#[1]⟩) = W4 at *
    clear c4 f4 lx
    obtain ⟨-, d0, d1, d2, d3, d4, d5, d6, -⟩ := D4.out.box
    obtain ⟨-, e0, e1, e2, e3, e4, e5, e6, -⟩ := D4.out.res
    have g0 := D4.out.res.fz 0 (by decide)
    have g1 := D4.out.res.fz 1 (by decide)
    have g2 := D4.out.res.fz 2 (by decide)
    have g3 := D4.out.res.fz 3 (by decide)
    have g4 := D4.out.res.fz 4 (by decide)
    have g5 := D4.out.res.fz 5 (by decide)
    have g6 := D4.out.res.fz 6 (by decide)
    obtain ⟨Zx, Zs, Zg, Zo⟩ := D4.out.done
    have z0 := Zx.c0
    have z1 := Zx.c1
    have z2 := Zx.c2
    have z3 := Zx.c3
    have z4 := Zx.c4
    have z5 := Zx.c5
    have z6 := Zx.c6
    have GI := Lib.hid (D7.its GM.out Zo hb0 (by omega) hxs)
    have ZS := Lib.hid Zs
    have ZG := Lib.hid Zg
    clear Zx Zo Zs Zg
    go_wp2
    refine bodyPost_ret (v := .agg #[.int .i64 yk, .string yf, .string yt, .int .i64 ys, .string ⟨#[1]⟩, .int .i64 yp, .slice (some x) m q]) (by simp [results, Tryz.results50, go_sem, z0, z1, z2, z3, z4, z5, z6, e0, e1, e2, e3, e4, e5, e6]) rfl (by unfold PrBent; exact ⟨⟨yk, yf, yt, ys, ⟨#[1]⟩, yp, l⟩, x, m, q, A, N, C, k1 + 1, rfl, GI.out, by omega, ⟨⟨by show -1000 ≤ (yk : Int); omega, by show (yk : Int) ≤ 1000; omega⟩, by show yf.size ≤ 61; omega, by show yt.size ≤ 61; omega, ⟨by show -1000 ≤ (ys : Int); omega, by show (ys : Int) ≤ 1000; omega⟩, by show (⟨#[1]⟩ : ByteArray).size ≤ 61; decide, ⟨by show -1000 ≤ (yp : Int); omega, by show (yp : Int) ≤ 1000; omega⟩, by show l.length ≤ 60; omega, HD5.out⟩, by omega, ZS.out, ZG.out⟩)
  by_cases t4 : tt = 4
  · subst t4
    go_wp2_with fail
    refine wp_region_noPanic ?_
    refine wp_region_held_drew (S := (fun _ => True)) (by kernel_rfl) ?_ (fun hHeld => ?_)
    · exact trivial
    have DN := Lib.hid (D2.out.below ((Below.refl W2.heap.size W2).drew))
    clear D2
    have D2 := DN
    clear DN
    generalize W2.drew = W2b at *
    obtain ⟨W2, hW2⟩ : ∃ W2, W2 = W2b := ⟨_, rfl⟩
    subst hW2
    refine wpAnyH_take (i := 0) (oi := _) (v := ?_) rfl (by kernel_rfl) (by kernel_rfl) (by kernel_rfl) (fun _ _ _ h => h) (Or.inl ⟨by rfl, ?_⟩) (by with_reducible assumption) ?_
    rotate_left
    · intro Wz hSw
      clear hSw
      go_simp
      all_goals (with_reducible rfl)
    try simp only [Act.put, List.getElem_toArray, List.getElem_cons_zero, List.getElem_cons_succ, List.setIfInBounds_toArray, List.set_cons_zero, List.set_cons_succ]
    refine wpAnyH_take (i := 2) (oi := _) (v := ?_) rfl (by kernel_rfl) (by kernel_rfl) (by kernel_rfl) (fun _ _ _ h => h) (Or.inl ⟨by rfl, ?_⟩) (by with_reducible assumption) ?_
    rotate_left
    · intro Wz hSw
      clear hSw
      go_simp
      all_goals (with_reducible rfl)
    try simp only [Act.put, List.getElem_toArray, List.getElem_cons_zero, List.getElem_cons_succ, List.setIfInBounds_toArray, List.set_cons_zero, List.set_cons_succ]
    refine wpAnyH_ready (rs := [1, 3]) (by kernel_rfl) (by simp) ?_
    refine AllReadyH.cons (o := _) rfl (fun K hK => ?_) (AllReadyH.cons (o := _) rfl (fun K hK => ?_) AllReadyH.nil)
    · have y6 := D2.out.box.c6
      go_simp
      refine hK.out _ _ ?_ (fun hHeld => ?_)
      · exact trivial
      clear hK K
      try simp only [Act.put, List.getElem_toArray, List.getElem_cons_zero, List.getElem_cons_succ, List.setIfInBounds_toArray, List.set_cons_zero, List.set_cons_succ]
      clear y6
      refine wpAnyH_ready (rs := [3]) (by kernel_rfl) (by simp) ?_
      refine AllReadyH.cons (o := _) rfl (fun K hK => ?_) AllReadyH.nil
      have DN := Lib.hid (D2.out.below (below1 W2 (.cells #[.int .i64 0, .int .i64 1, .int .i64 6] 2)))
      have HR : Hid (Row (W2.alloc (.cells #[.int .i64 0, .int .i64 1, .int .i64 6] 2)) .i64 (.slice (some ⟨W2.heap.size, 0, none⟩) 3 3) [0, 1, 6]) := Lib.hid (lit_row W2 2 .i64 [0, 1, 6] 3 rfl (by decide))
      have hlb : W2.heap.size ≠ b := by have := D2.out.src.lt; omega
      go_simp
      refine hK.out _ _ ?_ (fun hHeld => ?_)
      · exact trivial
      clear hK K
      try simp only [Act.put, List.getElem_toArray, List.getElem_cons_zero, List.getElem_cons_succ, List.setIfInBounds_toArray, List.set_cons_zero, List.set_cons_succ]
      clear D2
      have D2 := DN
      clear DN
      generalize W2.heap.size = lb at HR hlb ⊢
      generalize W2.alloc (.cells #[.int .i64 0, .int .i64 1, .int .i64 6] 2) = W2b at *
      obtain ⟨W2, hW2⟩ : ∃ W2, W2 = W2b := ⟨_, rfl⟩
      subst hW2
      refine wpAnyH_ready (rs := [4]) (by kernel_rfl) (by simp) ?_
      refine AllReadyH.cons (o := _) rfl (fun K hK => ?_) AllReadyH.nil
      have KP := l1Pick_any b a n c xs (k1 + 1) lb 3 [0, 1, 6] rfl (by decide) (by decide) (by omega) _ D2.out.src HR.out hlb
      unfold PickRes at KP
      go_simp
      refine KP.mono ?_
      clear KP HR
      rintro e W3 ⟨d, rfl, hdm, hs, hg⟩
      have hd : 0 ≤ d ∧ d ≤ 6 := by
        simp only [List.mem_cons, List.not_mem_nil, or_false] at hdm
        omega
      obtain ⟨hd1, hd2⟩ := hd
      have DN := Lib.hid (D2.out.call hs hg)
      clear hs hg hdm D2
      have D2 := DN
      clear DN
      go_wp2_with fail
      refine hK.out _ _ ?_ (fun hHeld => ?_)
      · exact trivial
      clear hK K
      try simp only [Act.put, List.getElem_toArray, List.getElem_cons_zero, List.getElem_cons_succ, List.setIfInBounds_toArray, List.set_cons_zero, List.set_cons_succ]
      obtain ⟨W2, hW2⟩ : ∃ W2, W2 = W3 := ⟨_, rfl⟩
      subst hW2
      refine wpAnyH_take (i := 5) (oi := _) (v := ?_) rfl (by kernel_rfl) (by kernel_rfl) (by kernel_rfl) (fun _ _ _ h => h) (Or.inl ⟨by rfl, ?_⟩) (by with_reducible assumption) ?_
      rotate_left
      · intro Wz hSw
        clear hSw
        go_simp
        all_goals (with_reducible rfl)
      try simp only [Act.put, List.getElem_toArray, List.getElem_cons_zero, List.getElem_cons_succ, List.setIfInBounds_toArray, List.set_cons_zero, List.set_cons_succ]
      refine wpAnyH_ready (rs := [6]) (by kernel_rfl) (by simp) ?_
      refine AllReadyH.cons (o := _) rfl (fun K hK => ?_) AllReadyH.nil
      have DN := Lib.hid (D2.out.below (below1 W2 (.cells #[.int .i64 d, .string ⟨#[]⟩, .string ⟨#[106, 97, 98, 98, 101, 114, 58, 99, 108, 105, 101, 110, 116]⟩, .string ⟨#[115, 104, 111, 119]⟩, .slice none 0 0] 67)))
      have hone := itCells W2 (.int .i64 d) (.string ⟨#[]⟩) (.string ⟨#[106, 97, 98, 98, 101, 114, 58, 99, 108, 105, 101, 110, 116]⟩) (.string ⟨#[115, 104, 111, 119]⟩) (.slice none 0 0)
      go_simp
      refine hK.out _ _ ?_ (fun hHeld => ?_)
      · exact trivial
      clear hK K
      try simp only [Act.put, List.getElem_toArray, List.getElem_cons_zero, List.getElem_cons_succ, List.setIfInBounds_toArray, List.set_cons_zero, List.set_cons_succ]
      clear D2
      have D2 := DN
      clear DN
      generalize W2.heap.size = ob at hone ⊢
      generalize W2.alloc (.cells #[.int .i64 d, .string ⟨#[]⟩, .string ⟨#[106, 97, 98, 98, 101, 114, 58, 99, 108, 105, 101, 110, 116]⟩, .string ⟨#[115, 104, 111, 119]⟩, .slice none 0 0] 67) = W2b at *
      obtain ⟨W2, hW2⟩ : ∃ W2, W2 = W2b := ⟨_, rfl⟩
      subst hW2
      have GW := (GM.out.onlyP D2.out.on (fun i h1 h2 hp => by rcases hp with e | e | e | e <;> omega))
      have hsB : w.heap.size + 1 ≤ W2.heap.size := by have := D2.out.gr.size; have := GW.row.lt; have := D2.out.res.lt; omega
      refine wpAnyH_ready (rs := [7]) (by kernel_rfl) (by simp) ?_
      refine AllReadyH.cons (o := _) rfl (fun K hK => ?_) AllReadyH.nil
      refine step_own_at (by rfl) _ _ 24 rfl 67 i0 (.agg #[.int .i64 0, .string ByteArray.empty, .string ByteArray.empty, .string ByteArray.empty, .slice none 0 0]) 5 80 Tryz.underlying24 hi hz0 hi1 hz2 rfl (by decide) (w.heap.size + 1) _ m _ (by rfl) GW.row ⟨ob, 0, none⟩ 1 1 [.int .i64 d, .string ⟨#[]⟩, .string ⟨#[106, 97, 98, 98, 101, 114, 58, 99, 108, 105, 101, 110, 116]⟩, .string ⟨#[115, 104, 111, 119]⟩, .slice none 0 0] (by rfl) rfl hone (by intro v hv; simp at hv; rcases hv with rfl | rfl | rfl | rfl | rfl <;> rfl) (by unfold maxLen; omega) (by omega) hsB ?_
      intro v' W7 hown hgr hat
      obtain ⟨a8, c8, rfl⟩ := owns_slice hown
      obtain ⟨x8, rfl⟩ := owns_some hown (by omega)
      have hrow : ∀ g, (Value.slice (some x) m q).ownBlock = some g → w.heap.size + 1 ≤ g ∧ g ≠ xp := fun g e => by have h1 := GM.out.row.lt g e; omega
      have G8 := Lib.hid (GW.snoc (x := (⟨d, ⟨#[]⟩, ⟨#[106, 97, 98, 98, 101, 114, 58, 99, 108, 105, 101, 110, 116]⟩, ⟨#[115, 104, 111, 119]⟩, []⟩ : It)) (Below.refl _ _) (noAts0 _ _ _) (fun _ => rfl) hsB hown hgr (hat.imp id fun e => ⟨W2.heap.size, e, Nat.le_refl _⟩))
      have D8 := Lib.hid (D2.out.regrow hgr (fun g e => by have := hrow g e; omega))
      have hRow8 : ∀ g, (Value.slice (some x8) (m + 1) c8).ownBlock = some g → w.heap.size + 1 ≤ g ∧ g < W7.heap.size ∧ g ≠ xp := fun g e => ⟨(G8.out.row.lt g e).1, (G8.out.row.lt g e).2, by
        rcases hat with h | h
        · rw [h] at e
          exact (hrow g e).2
        · rw [h] at e
          simp only [Option.some.injEq] at e
          have := D2.out.box.lt
          omega⟩
      have hAts8 : ∀ i, i < (l ++ [(⟨d, ⟨#[]⟩, ⟨#[106, 97, 98, 98, 101, 114, 58, 99, 108, 105, 101, 110, 116]⟩, ⟨#[115, 104, 111, 119]⟩, []⟩ : It)]).length → ∀ y, (putA l.length none A) i = some y → (putA l.length 0 N) i ≠ 0 → w.heap.size + 1 ≤ y.block ∧ y.block < xp := fun i hi y hy hn => by
        unfold putA at hy hn
        by_cases e : i = l.length
        · rw [if_pos e] at hy
          cases hy
        · rw [if_neg e] at hy hn
          rw [List.length_append] at hi
          simp only [List.length_cons, List.length_nil] at hi
          have := (GM.out.ats i (by omega)).1.in hy hn
          omega
      have hx7 : xp < W7.heap.size := D8.out.box.lt
      have y6 := D8.out.box.c6
      have fz6 := D8.out.box.fz 6 (by decide)
      have lx := D8.out.box.lt
      have D9 : Hid (D7 w W7 (W7.setCell ⟨xp, 6, none⟩ (.slice (some x8) (m + 1) c8)) b a n c xs (k1 + 1 + 1) xp (.int .i64 yk) (.string yf) (.string yt) (.int .i64 ys) (.string yu) (.int .i64 yp) (.slice (some x8) (m + 1) c8)) := Lib.hid (D8.out.set 6 (.slice (some x8) (m + 1) c8) (by decide) ⟨rfl, rfl, rfl, rfl, rfl, rfl, rfl⟩)
      have HD8 := Lib.hid (drawn_snoc HD5.out (x := (⟨d, ⟨#[]⟩, ⟨#[106, 97, 98, 98, 101, 114, 58, 99, 108, 105, 101, 110, 116]⟩, ⟨#[115, 104, 111, 119]⟩, []⟩ : It)) ⟨⟨by show (0 : Int) ≤ d; omega, by show d ≤ (6 : Int); omega⟩, ⟨by show (⟨#[]⟩ : ByteArray).size ≤ 60; decide, by show (⟨#[106, 97, 98, 98, 101, 114, 58, 99, 108, 105, 101, 110, 116]⟩ : ByteArray).size ≤ 60; decide, by show (⟨#[115, 104, 111, 119]⟩ : ByteArray).size ≤ 60; decide⟩, by simp, fun i => by simp [dAt]⟩)
      refine hK.out _ _ ?_ (fun hHeld => ?_)
      · exact trivial
      clear hK K
      try simp only [Act.put, List.getElem_toArray, List.getElem_cons_zero, List.getElem_cons_succ, List.setIfInBounds_toArray, List.set_cons_zero, List.set_cons_succ]
      refine wpAnyH_take (i := 8) (oi := _) (v := ?_) rfl (by kernel_rfl) (by kernel_rfl) (by kernel_rfl) (fun _ _ _ h => h) (Or.inl ⟨by rfl, ?_⟩) (by with_reducible assumption) ?_
      rotate_left
      · intro Wz hSw
        clear hSw
        go_simp
        all_goals (with_reducible rfl)
      try simp only [Act.put, List.getElem_toArray, List.getElem_cons_zero, List.getElem_cons_succ, List.setIfInBounds_toArray, List.set_cons_zero, List.set_cons_succ]
      refine wpAnyH_ready (rs := [9]) (by kernel_rfl) (by simp) ?_
      refine AllReadyH.cons (o := _) rfl (fun K hK => ?_) AllReadyH.nil
      go_simp
      refine hK.out _ _ ?_ (fun hHeld => ?_)
      · exact trivial
      clear hK K
      try simp only [Act.put, List.getElem_toArray, List.getElem_cons_zero, List.getElem_cons_succ, List.setIfInBounds_toArray, List.set_cons_zero, List.set_cons_succ]
      refine wpAnyH_done (by kernel_rfl) ?_ _
      refine NoPanic.normal ?_
      clear hown hgr hat y6 fz6 lx hone D2 GM
      go_upto_region 17 with fail
      generalize hw9 : W7.setCell ⟨xp, 6, none⟩ (.slice (some x8) (m + 1) c8) = W9 at *
      obtain ⟨-, d0, d1, d2, d3, d4, d5, d6, -⟩ := D9.out.box
      obtain ⟨-, e0, e1, e2, e3, e4, e5, e6, -⟩ := D9.out.res
      have g0 := D9.out.res.fz 0 (by decide)
      have g1 := D9.out.res.fz 1 (by decide)
      have g2 := D9.out.res.fz 2 (by decide)
      have g3 := D9.out.res.fz 3 (by decide)
      have g4 := D9.out.res.fz 4 (by decide)
      have g5 := D9.out.res.fz 5 (by decide)
      have g6 := D9.out.res.fz 6 (by decide)
      obtain ⟨Zx, Zs, Zg, Zo⟩ := D9.out.done
      have z0 := Zx.c0
      have z1 := Zx.c1
      have z2 := Zx.c2
      have z3 := Zx.c3
      have z4 := Zx.c4
      have z5 := Zx.c5
      have z6 := Zx.c6
      have GI := Lib.hid ((G8.out.onlyX Zo (fun g e hp => by have := hRow8 g e; rcases hp with hp | hp | hp | hp <;> omega) (fun i hi y hy hn hp => by have := hAts8 i hi y hy hn; rcases hp with hp | hp | hp | hp <;> omega)).base (B' := w.heap.size) (by omega))
      have ZS := Lib.hid Zs
      have ZG := Lib.hid Zg
      clear Zx Zo Zs Zg
      go_wp2
      refine bodyPost_ret (v := .agg #[.int .i64 yk, .string yf, .string yt, .int .i64 ys, .string yu, .int .i64 yp, .slice (some x8) (m + 1) c8]) (by simp [results, Tryz.results50, go_sem, z0, z1, z2, z3, z4, z5, z6, e0, e1, e2, e3, e4, e5, e6]) rfl (by unfold PrBent; exact ⟨⟨yk, yf, yt, ys, yu, yp, l ++ [(⟨d, ⟨#[]⟩, ⟨#[106, 97, 98, 98, 101, 114, 58, 99, 108, 105, 101, 110, 116]⟩, ⟨#[115, 104, 111, 119]⟩, []⟩ : It)]⟩, x8, m + 1, c8, _, _, _, k1 + 1 + 1, rfl, GI.out, by omega, ⟨⟨by show -1000 ≤ (yk : Int); omega, by show (yk : Int) ≤ 1000; omega⟩, by show yf.size ≤ 61; omega, by show yt.size ≤ 61; omega, ⟨by show -1000 ≤ (ys : Int); omega, by show (ys : Int) ≤ 1000; omega⟩, by show yu.size ≤ 61; omega, ⟨by show -1000 ≤ (yp : Int); omega, by show (yp : Int) ≤ 1000; omega⟩, by show (l ++ [(⟨d, ⟨#[]⟩, ⟨#[106, 97, 98, 98, 101, 114, 58, 99, 108, 105, 101, 110, 116]⟩, ⟨#[115, 104, 111, 119]⟩, []⟩ : It)]).length ≤ 60; rw [List.length_append, hlm]; show m + 1 ≤ 60; omega, HD8.out⟩, by omega, ZS.out, ZG.out⟩)
    · have DN := Lib.hid (D2.out.below (below1 W2 (.cells #[.int .i64 0, .int .i64 1, .int .i64 6] 2)))
      have HR : Hid (Row (W2.alloc (.cells #[.int .i64 0, .int .i64 1, .int .i64 6] 2)) .i64 (.slice (some ⟨W2.heap.size, 0, none⟩) 3 3) [0, 1, 6]) := Lib.hid (lit_row W2 2 .i64 [0, 1, 6] 3 rfl (by decide))
      have hlb : W2.heap.size ≠ b := by have := D2.out.src.lt; omega
      go_simp
      refine hK.out _ _ ?_ (fun hHeld => ?_)
      · exact trivial
      clear hK K
      try simp only [Act.put, List.getElem_toArray, List.getElem_cons_zero, List.getElem_cons_succ, List.setIfInBounds_toArray, List.set_cons_zero, List.set_cons_succ]
      clear D2
      have D2 := DN
      clear DN
      generalize W2.heap.size = lb at HR hlb ⊢
      generalize W2.alloc (.cells #[.int .i64 0, .int .i64 1, .int .i64 6] 2) = W2b at *
      obtain ⟨W2, hW2⟩ : ∃ W2, W2 = W2b := ⟨_, rfl⟩
      subst hW2
      refine wpAnyH_ready (rs := [1, 4]) (by kernel_rfl) (by simp) ?_
      refine AllReadyH.cons (o := _) rfl (fun K hK => ?_) (AllReadyH.cons (o := _) rfl (fun K hK => ?_) AllReadyH.nil)
      · have y6 := D2.out.box.c6
        go_simp
        refine hK.out _ _ ?_ (fun hHeld => ?_)
        · exact trivial
        clear hK K
        try simp only [Act.put, List.getElem_toArray, List.getElem_cons_zero, List.getElem_cons_succ, List.setIfInBounds_toArray, List.set_cons_zero, List.set_cons_succ]
        clear y6
        refine wpAnyH_ready (rs := [4]) (by kernel_rfl) (by simp) ?_
        refine AllReadyH.cons (o := _) rfl (fun K hK => ?_) AllReadyH.nil
        have KP := l1Pick_any b a n c xs (k1 + 1) lb 3 [0, 1, 6] rfl (by decide) (by decide) (by omega) _ D2.out.src HR.out hlb
        unfold PickRes at KP
        go_simp
        refine KP.mono ?_
        clear KP HR
        rintro e W3 ⟨d, rfl, hdm, hs, hg⟩
        have hd : 0 ≤ d ∧ d ≤ 6 := by
          simp only [List.mem_cons, List.not_mem_nil, or_false] at hdm
          omega
        obtain ⟨hd1, hd2⟩ := hd
        have DN := Lib.hid (D2.out.call hs hg)
        clear hs hg hdm D2
        have D2 := DN
        clear DN
        go_wp2_with fail
        refine hK.out _ _ ?_ (fun hHeld => ?_)
        · exact trivial
        clear hK K
        try simp only [Act.put, List.getElem_toArray, List.getElem_cons_zero, List.getElem_cons_succ, List.setIfInBounds_toArray, List.set_cons_zero, List.set_cons_succ]
        obtain ⟨W2, hW2⟩ : ∃ W2, W2 = W3 := ⟨_, rfl⟩
        subst hW2
        refine wpAnyH_take (i := 5) (oi := _) (v := ?_) rfl (by kernel_rfl) (by kernel_rfl) (by kernel_rfl) (fun _ _ _ h => h) (Or.inl ⟨by rfl, ?_⟩) (by with_reducible assumption) ?_
        rotate_left
        · intro Wz hSw
          clear hSw
          go_simp
          all_goals (with_reducible rfl)
        try simp only [Act.put, List.getElem_toArray, List.getElem_cons_zero, List.getElem_cons_succ, List.setIfInBounds_toArray, List.set_cons_zero, List.set_cons_succ]
        refine wpAnyH_ready (rs := [6]) (by kernel_rfl) (by simp) ?_
        refine AllReadyH.cons (o := _) rfl (fun K hK => ?_) AllReadyH.nil
        have DN := Lib.hid (D2.out.below (below1 W2 (.cells #[.int .i64 d, .string ⟨#[]⟩, .string ⟨#[106, 97, 98, 98, 101, 114, 58, 99, 108, 105, 101, 110, 116]⟩, .string ⟨#[115, 104, 111, 119]⟩, .slice none 0 0] 67)))
        have hone := itCells W2 (.int .i64 d) (.string ⟨#[]⟩) (.string ⟨#[106, 97, 98, 98, 101, 114, 58, 99, 108, 105, 101, 110, 116]⟩) (.string ⟨#[115, 104, 111, 119]⟩) (.slice none 0 0)
        go_simp
        refine hK.out _ _ ?_ (fun hHeld => ?_)
        · exact trivial
        clear hK K
        try simp only [Act.put, List.getElem_toArray, List.getElem_cons_zero, List.getElem_cons_succ, List.setIfInBounds_toArray, List.set_cons_zero, List.set_cons_succ]
        clear D2
        have D2 := DN
        clear DN
        generalize W2.heap.size = ob at hone ⊢
        generalize W2.alloc (.cells #[.int .i64 d, .string ⟨#[]⟩, .string ⟨#[106, 97, 98, 98, 101, 114, 58, 99, 108, 105, 101, 110, 116]⟩, .string ⟨#[115, 104, 111, 119]⟩, .slice none 0 0] 67) = W2b at *
        obtain ⟨W2, hW2⟩ : ∃ W2, W2 = W2b := ⟨_, rfl⟩
        subst hW2
        have GW := (GM.out.onlyP D2.out.on (fun i h1 h2 hp => by rcases hp with e | e | e | e <;> omega))
        have hsB : w.heap.size + 1 ≤ W2.heap.size := by have := D2.out.gr.size; have := GW.row.lt; have := D2.out.res.lt; omega
        refine wpAnyH_ready (rs := [7]) (by kernel_rfl) (by simp) ?_
        refine AllReadyH.cons (o := _) rfl (fun K hK => ?_) AllReadyH.nil
        refine step_own_at (by rfl) _ _ 24 rfl 67 i0 (.agg #[.int .i64 0, .string ByteArray.empty, .string ByteArray.empty, .string ByteArray.empty, .slice none 0 0]) 5 80 Tryz.underlying24 hi hz0 hi1 hz2 rfl (by decide) (w.heap.size + 1) _ m _ (by rfl) GW.row ⟨ob, 0, none⟩ 1 1 [.int .i64 d, .string ⟨#[]⟩, .string ⟨#[106, 97, 98, 98, 101, 114, 58, 99, 108, 105, 101, 110, 116]⟩, .string ⟨#[115, 104, 111, 119]⟩, .slice none 0 0] (by rfl) rfl hone (by intro v hv; simp at hv; rcases hv with rfl | rfl | rfl | rfl | rfl <;> rfl) (by unfold maxLen; omega) (by omega) hsB ?_
        intro v' W7 hown hgr hat
        obtain ⟨a8, c8, rfl⟩ := owns_slice hown
        obtain ⟨x8, rfl⟩ := owns_some hown (by omega)
        have hrow : ∀ g, (Value.slice (some x) m q).ownBlock = some g → w.heap.size + 1 ≤ g ∧ g ≠ xp := fun g e => by have h1 := GM.out.row.lt g e; omega
        have G8 := Lib.hid (GW.snoc (x := (⟨d, ⟨#[]⟩, ⟨#[106, 97, 98, 98, 101, 114, 58, 99, 108, 105, 101, 110, 116]⟩, ⟨#[115, 104, 111, 119]⟩, []⟩ : It)) (Below.refl _ _) (noAts0 _ _ _) (fun _ => rfl) hsB hown hgr (hat.imp id fun e => ⟨W2.heap.size, e, Nat.le_refl _⟩))
        have D8 := Lib.hid (D2.out.regrow hgr (fun g e => by have := hrow g e; omega))
        have hRow8 : ∀ g, (Value.slice (some x8) (m + 1) c8).ownBlock = some g → w.heap.size + 1 ≤ g ∧ g < W7.heap.size ∧ g ≠ xp := fun g e => ⟨(G8.out.row.lt g e).1, (G8.out.row.lt g e).2, by
          rcases hat with h | h
          · rw [h] at e
            exact (hrow g e).2
          · rw [h] at e
            simp only [Option.some.injEq] at e
            have := D2.out.box.lt
            omega⟩
        have hAts8 : ∀ i, i < (l ++ [(⟨d, ⟨#[]⟩, ⟨#[106, 97, 98, 98, 101, 114, 58, 99, 108, 105, 101, 110, 116]⟩, ⟨#[115, 104, 111, 119]⟩, []⟩ : It)]).length → ∀ y, (putA l.length none A) i = some y → (putA l.length 0 N) i ≠ 0 → w.heap.size + 1 ≤ y.block ∧ y.block < xp := fun i hi y hy hn => by
          unfold putA at hy hn
          by_cases e : i = l.length
          · rw [if_pos e] at hy
            cases hy
          · rw [if_neg e] at hy hn
            rw [List.length_append] at hi
            simp only [List.length_cons, List.length_nil] at hi
            have := (GM.out.ats i (by omega)).1.in hy hn
            omega
        have hx7 : xp < W7.heap.size := D8.out.box.lt
        have y6 := D8.out.box.c6
        have fz6 := D8.out.box.fz 6 (by decide)
        have lx := D8.out.box.lt
        have D9 : Hid (D7 w W7 (W7.setCell ⟨xp, 6, none⟩ (.slice (some x8) (m + 1) c8)) b a n c xs (k1 + 1 + 1) xp (.int .i64 yk) (.string yf) (.string yt) (.int .i64 ys) (.string yu) (.int .i64 yp) (.slice (some x8) (m + 1) c8)) := Lib.hid (D8.out.set 6 (.slice (some x8) (m + 1) c8) (by decide) ⟨rfl, rfl, rfl, rfl, rfl, rfl, rfl⟩)
        have HD8 := Lib.hid (drawn_snoc HD5.out (x := (⟨d, ⟨#[]⟩, ⟨#[106, 97, 98, 98, 101, 114, 58, 99, 108, 105, 101, 110, 116]⟩, ⟨#[115, 104, 111, 119]⟩, []⟩ : It)) ⟨⟨by show (0 : Int) ≤ d; omega, by show d ≤ (6 : Int); omega⟩, ⟨by show (⟨#[]⟩ : ByteArray).size ≤ 60; decide, by show (⟨#[106, 97, 98, 98, 101, 114, 58, 99, 108, 105, 101, 110, 116]⟩ : ByteArray).size ≤ 60; decide, by show (⟨#[115, 104, 111, 119]⟩ : ByteArray).size ≤ 60; decide⟩, by simp, fun i => by simp [dAt]⟩)
        refine hK.out _ _ ?_ (fun hHeld => ?_)
        · exact trivial
        clear hK K
        try simp only [Act.put, List.getElem_toArray, List.getElem_cons_zero, List.getElem_cons_succ, List.setIfInBounds_toArray, List.set_cons_zero, List.set_cons_succ]
        refine wpAnyH_take (i := 8) (oi := _) (v := ?_) rfl (by kernel_rfl) (by kernel_rfl) (by kernel_rfl) (fun _ _ _ h => h) (Or.inl ⟨by rfl, ?_⟩) (by with_reducible assumption) ?_
        rotate_left
        · intro Wz hSw
          clear hSw
          go_simp
          all_goals (with_reducible rfl)
        try simp only [Act.put, List.getElem_toArray, List.getElem_cons_zero, List.getElem_cons_succ, List.setIfInBounds_toArray, List.set_cons_zero, List.set_cons_succ]
        refine wpAnyH_ready (rs := [9]) (by kernel_rfl) (by simp) ?_
        refine AllReadyH.cons (o := _) rfl (fun K hK => ?_) AllReadyH.nil
        go_simp
        refine hK.out _ _ ?_ (fun hHeld => ?_)
        · exact trivial
        clear hK K
        try simp only [Act.put, List.getElem_toArray, List.getElem_cons_zero, List.getElem_cons_succ, List.setIfInBounds_toArray, List.set_cons_zero, List.set_cons_succ]
        refine wpAnyH_done (by kernel_rfl) ?_ _
        refine NoPanic.normal ?_
        clear hown hgr hat y6 fz6 lx hone D2 GM
        go_upto_region 17 with fail
        generalize hw9 : W7.setCell ⟨xp, 6, none⟩ (.slice (some x8) (m + 1) c8) = W9 at *
        obtain ⟨-, d0, d1, d2, d3, d4, d5, d6, -⟩ := D9.out.box
        obtain ⟨-, e0, e1, e2, e3, e4, e5, e6, -⟩ := D9.out.res
        have g0 := D9.out.res.fz 0 (by decide)
        have g1 := D9.out.res.fz 1 (by decide)
        have g2 := D9.out.res.fz 2 (by decide)
        have g3 := D9.out.res.fz 3 (by decide)
        have g4 := D9.out.res.fz 4 (by decide)
        have g5 := D9.out.res.fz 5 (by decide)
        have g6 := D9.out.res.fz 6 (by decide)
        obtain ⟨Zx, Zs, Zg, Zo⟩ := D9.out.done
        have z0 := Zx.c0
        have z1 := Zx.c1
        have z2 := Zx.c2
        have z3 := Zx.c3
        have z4 := Zx.c4
        have z5 := Zx.c5
        have z6 := Zx.c6
        have GI := Lib.hid ((G8.out.onlyX Zo (fun g e hp => by have := hRow8 g e; rcases hp with hp | hp | hp | hp <;> omega) (fun i hi y hy hn hp => by have := hAts8 i hi y hy hn; rcases hp with hp | hp | hp | hp <;> omega)).base (B' := w.heap.size) (by omega))
        have ZS := Lib.hid Zs
        have ZG := Lib.hid Zg
        clear Zx Zo Zs Zg
        go_wp2
        refine bodyPost_ret (v := .agg #[.int .i64 yk, .string yf, .string yt, .int .i64 ys, .string yu, .int .i64 yp, .slice (some x8) (m + 1) c8]) (by simp [results, Tryz.results50, go_sem, z0, z1, z2, z3, z4, z5, z6, e0, e1, e2, e3, e4, e5, e6]) rfl (by unfold PrBent; exact ⟨⟨yk, yf, yt, ys, yu, yp, l ++ [(⟨d, ⟨#[]⟩, ⟨#[106, 97, 98, 98, 101, 114, 58, 99, 108, 105, 101, 110, 116]⟩, ⟨#[115, 104, 111, 119]⟩, []⟩ : It)]⟩, x8, m + 1, c8, _, _, _, k1 + 1 + 1, rfl, GI.out, by omega, ⟨⟨by show -1000 ≤ (yk : Int); omega, by show (yk : Int) ≤ 1000; omega⟩, by show yf.size ≤ 61; omega, by show yt.size ≤ 61; omega, ⟨by show -1000 ≤ (ys : Int); omega, by show (ys : Int) ≤ 1000; omega⟩, by show yu.size ≤ 61; omega, ⟨by show -1000 ≤ (yp : Int); omega, by show (yp : Int) ≤ 1000; omega⟩, by show (l ++ [(⟨d, ⟨#[]⟩, ⟨#[106, 97, 98, 98, 101, 114, 58, 99, 108, 105, 101, 110, 116]⟩, ⟨#[115, 104, 111, 119]⟩, []⟩ : It)]).length ≤ 60; rw [List.length_append, hlm]; show m + 1 ≤ 60; omega, HD8.out⟩, by omega, ZS.out, ZG.out⟩)
      · have KP := l1Pick_any b a n c xs (k1 + 1) lb 3 [0, 1, 6] rfl (by decide) (by decide) (by omega) _ D2.out.src HR.out hlb
        unfold PickRes at KP
        go_simp
        refine KP.mono ?_
        clear KP HR
        rintro e W3 ⟨d, rfl, hdm, hs, hg⟩
        have hd : 0 ≤ d ∧ d ≤ 6 := by
          simp only [List.mem_cons, List.not_mem_nil, or_false] at hdm
          omega
        obtain ⟨hd1, hd2⟩ := hd
        have DN := Lib.hid (D2.out.call hs hg)
        clear hs hg hdm D2
        have D2 := DN
        clear DN
        go_wp2_with fail
        refine hK.out _ _ ?_ (fun hHeld => ?_)
        · exact trivial
        clear hK K
        try simp only [Act.put, List.getElem_toArray, List.getElem_cons_zero, List.getElem_cons_succ, List.setIfInBounds_toArray, List.set_cons_zero, List.set_cons_succ]
        obtain ⟨W2, hW2⟩ : ∃ W2, W2 = W3 := ⟨_, rfl⟩
        subst hW2
        refine wpAnyH_take (i := 5) (oi := _) (v := ?_) rfl (by kernel_rfl) (by kernel_rfl) (by kernel_rfl) (fun _ _ _ h => h) (Or.inl ⟨by rfl, ?_⟩) (by with_reducible assumption) ?_
        rotate_left
        · intro Wz hSw
          clear hSw
          go_simp
          all_goals (with_reducible rfl)
        try simp only [Act.put, List.getElem_toArray, List.getElem_cons_zero, List.getElem_cons_succ, List.setIfInBounds_toArray, List.set_cons_zero, List.set_cons_succ]
        refine wpAnyH_ready (rs := [1, 6]) (by kernel_rfl) (by simp) ?_
        refine AllReadyH.cons (o := _) rfl (fun K hK => ?_) (AllReadyH.cons (o := _) rfl (fun K hK => ?_) AllReadyH.nil)
        · have y6 := D2.out.box.c6
          go_simp
          refine hK.out _ _ ?_ (fun hHeld => ?_)
          · exact trivial
          clear hK K
          try simp only [Act.put, List.getElem_toArray, List.getElem_cons_zero, List.getElem_cons_succ, List.setIfInBounds_toArray, List.set_cons_zero, List.set_cons_succ]
          clear y6
          refine wpAnyH_ready (rs := [6]) (by kernel_rfl) (by simp) ?_
          refine AllReadyH.cons (o := _) rfl (fun K hK => ?_) AllReadyH.nil
          have DN := Lib.hid (D2.out.below (below1 W2 (.cells #[.int .i64 d, .string ⟨#[]⟩, .string ⟨#[106, 97, 98, 98, 101, 114, 58, 99, 108, 105, 101, 110, 116]⟩, .string ⟨#[115, 104, 111, 119]⟩, .slice none 0 0] 67)))
          have hone := itCells W2 (.int .i64 d) (.string ⟨#[]⟩) (.string ⟨#[106, 97, 98, 98, 101, 114, 58, 99, 108, 105, 101, 110, 116]⟩) (.string ⟨#[115, 104, 111, 119]⟩) (.slice none 0 0)
          go_simp
          refine hK.out _ _ ?_ (fun hHeld => ?_)
          · exact trivial
          clear hK K
          try simp only [Act.put, List.getElem_toArray, List.getElem_cons_zero, List.getElem_cons_succ, List.setIfInBounds_toArray, List.set_cons_zero, List.set_cons_succ]
          clear D2
          have D2 := DN
          clear DN
          generalize W2.heap.size = ob at hone ⊢
          generalize W2.alloc (.cells #[.int .i64 d, .string ⟨#[]⟩, .string ⟨#[106, 97, 98, 98, 101, 114, 58, 99, 108, 105, 101, 110, 116]⟩, .string ⟨#[115, 104, 111, 119]⟩, .slice none 0 0] 67) = W2b at *
          obtain ⟨W2, hW2⟩ : ∃ W2, W2 = W2b := ⟨_, rfl⟩
          subst hW2
          have GW := (GM.out.onlyP D2.out.on (fun i h1 h2 hp => by rcases hp with e | e | e | e <;> omega))
          have hsB : w.heap.size + 1 ≤ W2.heap.size := by have := D2.out.gr.size; have := GW.row.lt; have := D2.out.res.lt; omega
          refine wpAnyH_ready (rs := [7]) (by kernel_rfl) (by simp) ?_
          refine AllReadyH.cons (o := _) rfl (fun K hK => ?_) AllReadyH.nil
          refine step_own_at (by rfl) _ _ 24 rfl 67 i0 (.agg #[.int .i64 0, .string ByteArray.empty, .string ByteArray.empty, .string ByteArray.empty, .slice none 0 0]) 5 80 Tryz.underlying24 hi hz0 hi1 hz2 rfl (by decide) (w.heap.size + 1) _ m _ (by rfl) GW.row ⟨ob, 0, none⟩ 1 1 [.int .i64 d, .string ⟨#[]⟩, .string ⟨#[106, 97, 98, 98, 101, 114, 58, 99, 108, 105, 101, 110, 116]⟩, .string ⟨#[115, 104, 111, 119]⟩, .slice none 0 0] (by rfl) rfl hone (by intro v hv; simp at hv; rcases hv with rfl | rfl | rfl | rfl | rfl <;> rfl) (by unfold maxLen; omega) (by omega) hsB ?_
          intro v' W7 hown hgr hat
          obtain ⟨a8, c8, rfl⟩ := owns_slice hown
          obtain ⟨x8, rfl⟩ := owns_some hown (by omega)
          have hrow : ∀ g, (Value.slice (some x) m q).ownBlock = some g → w.heap.size + 1 ≤ g ∧ g ≠ xp := fun g e => by have h1 := GM.out.row.lt g e; omega
          have G8 := Lib.hid (GW.snoc (x := (⟨d, ⟨#[]⟩, ⟨#[106, 97, 98, 98, 101, 114, 58, 99, 108, 105, 101, 110, 116]⟩, ⟨#[115, 104, 111, 119]⟩, []⟩ : It)) (Below.refl _ _) (noAts0 _ _ _) (fun _ => rfl) hsB hown hgr (hat.imp id fun e => ⟨W2.heap.size, e, Nat.le_refl _⟩))
          have D8 := Lib.hid (D2.out.regrow hgr (fun g e => by have := hrow g e; omega))
          have hRow8 : ∀ g, (Value.slice (some x8) (m + 1) c8).ownBlock = some g → w.heap.size + 1 ≤ g ∧ g < W7.heap.size ∧ g ≠ xp := fun g e => ⟨(G8.out.row.lt g e).1, (G8.out.row.lt g e).2, by
            rcases hat with h | h
            · rw [h] at e
              exact (hrow g e).2
            · rw [h] at e
              simp only [Option.some.injEq] at e
              have := D2.out.box.lt
              omega⟩
          have hAts8 : ∀ i, i < (l ++ [(⟨d, ⟨#[]⟩, ⟨#[106, 97, 98, 98, 101, 114, 58, 99, 108, 105, 101, 110, 116]⟩, ⟨#[115, 104, 111, 119]⟩, []⟩ : It)]).length → ∀ y, (putA l.length none A) i = some y → (putA l.length 0 N) i ≠ 0 → w.heap.size + 1 ≤ y.block ∧ y.block < xp := fun i hi y hy hn => by
            unfold putA at hy hn
            by_cases e : i = l.length
            · rw [if_pos e] at hy
              cases hy
            · rw [if_neg e] at hy hn
              rw [List.length_append] at hi
              simp only [List.length_cons, List.length_nil] at hi
              have := (GM.out.ats i (by omega)).1.in hy hn
              omega
          have hx7 : xp < W7.heap.size := D8.out.box.lt
          have y6 := D8.out.box.c6
          have fz6 := D8.out.box.fz 6 (by decide)
          have lx := D8.out.box.lt
          have D9 : Hid (D7 w W7 (W7.setCell ⟨xp, 6, none⟩ (.slice (some x8) (m + 1) c8)) b a n c xs (k1 + 1 + 1) xp (.int .i64 yk) (.string yf) (.string yt) (.int .i64 ys) (.string yu) (.int .i64 yp) (.slice (some x8) (m + 1) c8)) := Lib.hid (D8.out.set 6 (.slice (some x8) (m + 1) c8) (by decide) ⟨rfl, rfl, rfl, rfl, rfl, rfl, rfl⟩)
          have HD8 := Lib.hid (drawn_snoc HD5.out (x := (⟨d, ⟨#[]⟩, ⟨#[106, 97, 98, 98, 101, 114, 58, 99, 108, 105, 101, 110, 116]⟩, ⟨#[115, 104, 111, 119]⟩, []⟩ : It)) ⟨⟨by show (0 : Int) ≤ d; omega, by show d ≤ (6 : Int); omega⟩, ⟨by show (⟨#[]⟩ : ByteArray).size ≤ 60; decide, by show (⟨#[106, 97, 98, 98, 101, 114, 58, 99, 108, 105, 101, 110, 116]⟩ : ByteArray).size ≤ 60; decide, by show (⟨#[115, 104, 111, 119]⟩ : ByteArray).size ≤ 60; decide⟩, by simp, fun i => by simp [dAt]⟩)
          refine hK.out _ _ ?_ (fun hHeld => ?_)
          · exact trivial
          clear hK K
          try simp only [Act.put, List.getElem_toArray, List.getElem_cons_zero, List.getElem_cons_succ, List.setIfInBounds_toArray, List.set_cons_zero, List.set_cons_succ]
          refine wpAnyH_take (i := 8) (oi := _) (v := ?_) rfl (by kernel_rfl) (by kernel_rfl) (by kernel_rfl) (fun _ _ _ h => h) (Or.inl ⟨by rfl, ?_⟩) (by with_reducible assumption) ?_
          rotate_left
          · intro Wz hSw
            clear hSw
            go_simp
            all_goals (with_reducible rfl)
          try simp only [Act.put, List.getElem_toArray, List.getElem_cons_zero, List.getElem_cons_succ, List.setIfInBounds_toArray, List.set_cons_zero, List.set_cons_succ]
          refine wpAnyH_ready (rs := [9]) (by kernel_rfl) (by simp) ?_
          refine AllReadyH.cons (o := _) rfl (fun K hK => ?_) AllReadyH.nil
          go_simp
          refine hK.out _ _ ?_ (fun hHeld => ?_)
          · exact trivial
          clear hK K
          try simp only [Act.put, List.getElem_toArray, List.getElem_cons_zero, List.getElem_cons_succ, List.setIfInBounds_toArray, List.set_cons_zero, List.set_cons_succ]
          refine wpAnyH_done (by kernel_rfl) ?_ _
          refine NoPanic.normal ?_
          clear hown hgr hat y6 fz6 lx hone D2 GM
          go_upto_region 17 with fail
          generalize hw9 : W7.setCell ⟨xp, 6, none⟩ (.slice (some x8) (m + 1) c8) = W9 at *
          obtain ⟨-, d0, d1, d2, d3, d4, d5, d6, -⟩ := D9.out.box
          obtain ⟨-, e0, e1, e2, e3, e4, e5, e6, -⟩ := D9.out.res
          have g0 := D9.out.res.fz 0 (by decide)
          have g1 := D9.out.res.fz 1 (by decide)
          have g2 := D9.out.res.fz 2 (by decide)
          have g3 := D9.out.res.fz 3 (by decide)
          have g4 := D9.out.res.fz 4 (by decide)
          have g5 := D9.out.res.fz 5 (by decide)
          have g6 := D9.out.res.fz 6 (by decide)
          obtain ⟨Zx, Zs, Zg, Zo⟩ := D9.out.done
          have z0 := Zx.c0
          have z1 := Zx.c1
          have z2 := Zx.c2
          have z3 := Zx.c3
          have z4 := Zx.c4
          have z5 := Zx.c5
          have z6 := Zx.c6
          have GI := Lib.hid ((G8.out.onlyX Zo (fun g e hp => by have := hRow8 g e; rcases hp with hp | hp | hp | hp <;> omega) (fun i hi y hy hn hp => by have := hAts8 i hi y hy hn; rcases hp with hp | hp | hp | hp <;> omega)).base (B' := w.heap.size) (by omega))
          have ZS := Lib.hid Zs
          have ZG := Lib.hid Zg
          clear Zx Zo Zs Zg
          go_wp2
          refine bodyPost_ret (v := .agg #[.int .i64 yk, .string yf, .string yt, .int .i64 ys, .string yu, .int .i64 yp, .slice (some x8) (m + 1) c8]) (by simp [results, Tryz.results50, go_sem, z0, z1, z2, z3, z4, z5, z6, e0, e1, e2, e3, e4, e5, e6]) rfl (by unfold PrBent; exact ⟨⟨yk, yf, yt, ys, yu, yp, l ++ [(⟨d, ⟨#[]⟩, ⟨#[106, 97, 98, 98, 101, 114, 58, 99, 108, 105, 101, 110, 116]⟩, ⟨#[115, 104, 111, 119]⟩, []⟩ : It)]⟩, x8, m + 1, c8, _, _, _, k1 + 1 + 1, rfl, GI.out, by omega, ⟨⟨by show -1000 ≤ (yk : Int); omega, by show (yk : Int) ≤ 1000; omega⟩, by show yf.size ≤ 61; omega, by show yt.size ≤ 61; omega, ⟨by show -1000 ≤ (ys : Int); omega, by show (ys : Int) ≤ 1000; omega⟩, by show yu.size ≤ 61; omega, ⟨by show -1000 ≤ (yp : Int); omega, by show (yp : Int) ≤ 1000; omega⟩, by show (l ++ [(⟨d, ⟨#[]⟩, ⟨#[106, 97, 98, 98, 101, 114, 58, 99, 108, 105, 101, 110, 116]⟩, ⟨#[115, 104, 111, 119]⟩, []⟩ : It)]).length ≤ 60; rw [List.length_append, hlm]; show m + 1 ≤ 60; omega, HD8.out⟩, by omega, ZS.out, ZG.out⟩)
        · have DN := Lib.hid (D2.out.below (below1 W2 (.cells #[.int .i64 d, .string ⟨#[]⟩, .string ⟨#[106, 97, 98, 98, 101, 114, 58, 99, 108, 105, 101, 110, 116]⟩, .string ⟨#[115, 104, 111, 119]⟩, .slice none 0 0] 67)))
          have hone := itCells W2 (.int .i64 d) (.string ⟨#[]⟩) (.string ⟨#[106, 97, 98, 98, 101, 114, 58, 99, 108, 105, 101, 110, 116]⟩) (.string ⟨#[115, 104, 111, 119]⟩) (.slice none 0 0)
          go_simp
          refine hK.out _ _ ?_ (fun hHeld => ?_)
          · exact trivial
          clear hK K
          try simp only [Act.put, List.getElem_toArray, List.getElem_cons_zero, List.getElem_cons_succ, List.setIfInBounds_toArray, List.set_cons_zero, List.set_cons_succ]
          clear D2
          have D2 := DN
          clear DN
          generalize W2.heap.size = ob at hone ⊢
          generalize W2.alloc (.cells #[.int .i64 d, .string ⟨#[]⟩, .string ⟨#[106, 97, 98, 98, 101, 114, 58, 99, 108, 105, 101, 110, 116]⟩, .string ⟨#[115, 104, 111, 119]⟩, .slice none 0 0] 67) = W2b at *
          obtain ⟨W2, hW2⟩ : ∃ W2, W2 = W2b := ⟨_, rfl⟩
          subst hW2
          refine wpAnyH_ready (rs := [1]) (by kernel_rfl) (by simp) ?_
          refine AllReadyH.cons (o := _) rfl (fun K hK => ?_) AllReadyH.nil
          have y6 := D2.out.box.c6
          go_simp
          refine hK.out _ _ ?_ (fun hHeld => ?_)
          · exact trivial
          clear hK K
          try simp only [Act.put, List.getElem_toArray, List.getElem_cons_zero, List.getElem_cons_succ, List.setIfInBounds_toArray, List.set_cons_zero, List.set_cons_succ]
          clear y6
          have GW := (GM.out.onlyP D2.out.on (fun i h1 h2 hp => by rcases hp with e | e | e | e <;> omega))
          have hsB : w.heap.size + 1 ≤ W2.heap.size := by have := D2.out.gr.size; have := GW.row.lt; have := D2.out.res.lt; omega
          refine wpAnyH_ready (rs := [7]) (by kernel_rfl) (by simp) ?_
          refine AllReadyH.cons (o := _) rfl (fun K hK => ?_) AllReadyH.nil
          refine step_own_at (by rfl) _ _ 24 rfl 67 i0 (.agg #[.int .i64 0, .string ByteArray.empty, .string ByteArray.empty, .string ByteArray.empty, .slice none 0 0]) 5 80 Tryz.underlying24 hi hz0 hi1 hz2 rfl (by decide) (w.heap.size + 1) _ m _ (by rfl) GW.row ⟨ob, 0, none⟩ 1 1 [.int .i64 d, .string ⟨#[]⟩, .string ⟨#[106, 97, 98, 98, 101, 114, 58, 99, 108, 105, 101, 110, 116]⟩, .string ⟨#[115, 104, 111, 119]⟩, .slice none 0 0] (by rfl) rfl hone (by intro v hv; simp at hv; rcases hv with rfl | rfl | rfl | rfl | rfl <;> rfl) (by unfold maxLen; omega) (by omega) hsB ?_
          intro v' W7 hown hgr hat
          obtain ⟨a8, c8, rfl⟩ := owns_slice hown
          obtain ⟨x8, rfl⟩ := owns_some hown (by omega)
          have hrow : ∀ g, (Value.slice (some x) m q).ownBlock = some g → w.heap.size + 1 ≤ g ∧ g ≠ xp := fun g e => by have h1 := GM.out.row.lt g e; omega
          have G8 := Lib.hid (GW.snoc (x := (⟨d, ⟨#[]⟩, ⟨#[106, 97, 98, 98, 101, 114, 58, 99, 108, 105, 101, 110, 116]⟩, ⟨#[115, 104, 111, 119]⟩, []⟩ : It)) (Below.refl _ _) (noAts0 _ _ _) (fun _ => rfl) hsB hown hgr (hat.imp id fun e => ⟨W2.heap.size, e, Nat.le_refl _⟩))
          have D8 := Lib.hid (D2.out.regrow hgr (fun g e => by have := hrow g e; omega))
          have hRow8 : ∀ g, (Value.slice (some x8) (m + 1) c8).ownBlock = some g → w.heap.size + 1 ≤ g ∧ g < W7.heap.size ∧ g ≠ xp := fun g e => ⟨(G8.out.row.lt g e).1, (G8.out.row.lt g e).2, by
            rcases hat with h | h
            · rw [h] at e
              exact (hrow g e).2
            · rw [h] at e
              simp only [Option.some.injEq] at e
              have := D2.out.box.lt
              omega⟩
          have hAts8 : ∀ i, i < (l ++ [(⟨d, ⟨#[]⟩, ⟨#[106, 97, 98, 98, 101, 114, 58, 99, 108, 105, 101, 110, 116]⟩, ⟨#[115, 104, 111, 119]⟩, []⟩ : It)]).length → ∀ y, (putA l.length none A) i = some y → (putA l.length 0 N) i ≠ 0 → w.heap.size + 1 ≤ y.block ∧ y.block < xp := fun i hi y hy hn => by
            unfold putA at hy hn
            by_cases e : i = l.length
            · rw [if_pos e] at hy
              cases hy
            · rw [if_neg e] at hy hn
              rw [List.length_append] at hi
              simp only [List.length_cons, List.length_nil] at hi
              have := (GM.out.ats i (by omega)).1.in hy hn
              omega
          have hx7 : xp < W7.heap.size := D8.out.box.lt
          have y6 := D8.out.box.c6
          have fz6 := D8.out.box.fz 6 (by decide)
          have lx := D8.out.box.lt
          have D9 : Hid (D7 w W7 (W7.setCell ⟨xp, 6, none⟩ (.slice (some x8) (m + 1) c8)) b a n c xs (k1 + 1 + 1) xp (.int .i64 yk) (.string yf) (.string yt) (.int .i64 ys) (.string yu) (.int .i64 yp) (.slice (some x8) (m + 1) c8)) := Lib.hid (D8.out.set 6 (.slice (some x8) (m + 1) c8) (by decide) ⟨rfl, rfl, rfl, rfl, rfl, rfl, rfl⟩)
          have HD8 := Lib.hid (drawn_snoc HD5.out (x := (⟨d, ⟨#[]⟩, ⟨#[106, 97, 98, 98, 101, 114, 58, 99, 108, 105, 101, 110, 116]⟩, ⟨#[115, 104, 111, 119]⟩, []⟩ : It)) ⟨⟨by show (0 : Int) ≤ d; omega, by show d ≤ (6 : Int); omega⟩, ⟨by show (⟨#[]⟩ : ByteArray).size ≤ 60; decide, by show (⟨#[106, 97, 98, 98, 101, 114, 58, 99, 108, 105, 101, 110, 116]⟩ : ByteArray).size ≤ 60; decide, by show (⟨#[115, 104, 111, 119]⟩ : ByteArray).size ≤ 60; decide⟩, by simp, fun i => by simp [dAt]⟩)
          refine hK.out _ _ ?_ (fun hHeld => ?_)
          · exact trivial
          clear hK K
          try simp only [Act.put, List.getElem_toArray, List.getElem_cons_zero, List.getElem_cons_succ, List.setIfInBounds_toArray, List.set_cons_zero, List.set_cons_succ]
          refine wpAnyH_take (i := 8) (oi := _) (v := ?_) rfl (by kernel_rfl) (by kernel_rfl) (by kernel_rfl) (fun _ _ _ h => h) (Or.inl ⟨by rfl, ?_⟩) (by with_reducible assumption) ?_
          rotate_left
          · intro Wz hSw
            clear hSw
            go_simp
            all_goals (with_reducible rfl)
          try simp only [Act.put, List.getElem_toArray, List.getElem_cons_zero, List.getElem_cons_succ, List.setIfInBounds_toArray, List.set_cons_zero, List.set_cons_succ]
          refine wpAnyH_ready (rs := [9]) (by kernel_rfl) (by simp) ?_
          refine AllReadyH.cons (o := _) rfl (fun K hK => ?_) AllReadyH.nil
          go_simp
          refine hK.out _ _ ?_ (fun hHeld => ?_)
          · exact trivial
          clear hK K
          try simp only [Act.put, List.getElem_toArray, List.getElem_cons_zero, List.getElem_cons_succ, List.setIfInBounds_toArray, List.set_cons_zero, List.set_cons_succ]
          refine wpAnyH_done (by kernel_rfl) ?_ _
          refine NoPanic.normal ?_
          clear hown hgr hat y6 fz6 lx hone D2 GM
          go_upto_region 17 with fail
          generalize hw9 : W7.setCell ⟨xp, 6, none⟩ (.slice (some x8) (m + 1) c8) = W9 at *
          obtain ⟨-, d0, d1, d2, d3, d4, d5, d6, -⟩ := D9.out.box
          obtain ⟨-, e0, e1, e2, e3, e4, e5, e6, -⟩ := D9.out.res
          have g0 := D9.out.res.fz 0 (by decide)
          have g1 := D9.out.res.fz 1 (by decide)
          have g2 := D9.out.res.fz 2 (by decide)
          have g3 := D9.out.res.fz 3 (by decide)
          have g4 := D9.out.res.fz 4 (by decide)
          have g5 := D9.out.res.fz 5 (by decide)
          have g6 := D9.out.res.fz 6 (by decide)
          obtain ⟨Zx, Zs, Zg, Zo⟩ := D9.out.done
          have z0 := Zx.c0
          have z1 := Zx.c1
          have z2 := Zx.c2
          have z3 := Zx.c3
          have z4 := Zx.c4
          have z5 := Zx.c5
          have z6 := Zx.c6
          have GI := Lib.hid ((G8.out.onlyX Zo (fun g e hp => by have := hRow8 g e; rcases hp with hp | hp | hp | hp <;> omega) (fun i hi y hy hn hp => by have := hAts8 i hi y hy hn; rcases hp with hp | hp | hp | hp <;> omega)).base (B' := w.heap.size) (by omega))
          have ZS := Lib.hid Zs
          have ZG := Lib.hid Zg
          clear Zx Zo Zs Zg
          go_wp2
          refine bodyPost_ret (v := .agg #[.int .i64 yk, .string yf, .string yt, .int .i64 ys, .string yu, .int .i64 yp, .slice (some x8) (m + 1) c8]) (by simp [results, Tryz.results50, go_sem, z0, z1, z2, z3, z4, z5, z6, e0, e1, e2, e3, e4, e5, e6]) rfl (by unfold PrBent; exact ⟨⟨yk, yf, yt, ys, yu, yp, l ++ [(⟨d, ⟨#[]⟩, ⟨#[106, 97, 98, 98, 101, 114, 58, 99, 108, 105, 101, 110, 116]⟩, ⟨#[115, 104, 111, 119]⟩, []⟩ : It)]⟩, x8, m + 1, c8, _, _, _, k1 + 1 + 1, rfl, GI.out, by omega, ⟨⟨by show -1000 ≤ (yk : Int); omega, by show (yk : Int) ≤ 1000; omega⟩, by show yf.size ≤ 61; omega, by show yt.size ≤ 61; omega, ⟨by show -1000 ≤ (ys : Int); omega, by show (ys : Int) ≤ 1000; omega⟩, by show yu.size ≤ 61; omega, ⟨by show -1000 ≤ (yp : Int); omega, by show (yp : Int) ≤ 1000; omega⟩, by show (l ++ [(⟨d, ⟨#[]⟩, ⟨#[106, 97, 98, 98, 101, 114, 58, 99, 108, 105, 101, 110, 116]⟩, ⟨#[115, 104, 111, 119]⟩, []⟩ : It)]).length ≤ 60; rw [List.length_append, hlm]; show m + 1 ≤ 60; omega, HD8.out⟩, by omega, ZS.out, ZG.out⟩)
  by_cases t5 : tt = 5
  · subst t5
    go_wp2_with fail
    refine wp_region_noPanic ?_
    refine wp_region_held_drew (S := (fun _ => True)) (by kernel_rfl) ?_ (fun hHeld => ?_)
    · exact trivial
    have DN := Lib.hid (D2.out.below ((Below.refl W2.heap.size W2).drew))
    clear D2
    have D2 := DN
    clear DN
    generalize W2.drew = W2b at *
    obtain ⟨W2, hW2⟩ : ∃ W2, W2 = W2b := ⟨_, rfl⟩
    subst hW2
    refine wpAnyH_take (i := 0) (oi := _) (v := ?_) rfl (by kernel_rfl) (by kernel_rfl) (by kernel_rfl) (fun _ _ _ h => h) (Or.inl ⟨by rfl, ?_⟩) (by with_reducible assumption) ?_
    rotate_left
    · intro Wz hSw
      clear hSw
      go_simp
      all_goals (with_reducible rfl)
    try simp only [Act.put, List.getElem_toArray, List.getElem_cons_zero, List.getElem_cons_succ, List.setIfInBounds_toArray, List.set_cons_zero, List.set_cons_succ]
    refine wpAnyH_take (i := 2) (oi := _) (v := ?_) rfl (by kernel_rfl) (by kernel_rfl) (by kernel_rfl) (fun _ _ _ h => h) (Or.inl ⟨by rfl, ?_⟩) (by with_reducible assumption) ?_
    rotate_left
    · intro Wz hSw
      clear hSw
      go_simp
      all_goals (with_reducible rfl)
    try simp only [Act.put, List.getElem_toArray, List.getElem_cons_zero, List.getElem_cons_succ, List.setIfInBounds_toArray, List.set_cons_zero, List.set_cons_succ]
    refine wpAnyH_ready (rs := [1, 3]) (by kernel_rfl) (by simp) ?_
    refine AllReadyH.cons (o := _) rfl (fun K hK => ?_) (AllReadyH.cons (o := _) rfl (fun K hK => ?_) AllReadyH.nil)
    · have y6 := D2.out.box.c6
      go_simp
      refine hK.out _ _ ?_ (fun hHeld => ?_)
      · exact trivial
      clear hK K
      try simp only [Act.put, List.getElem_toArray, List.getElem_cons_zero, List.getElem_cons_succ, List.setIfInBounds_toArray, List.set_cons_zero, List.set_cons_succ]
      clear y6
      refine wpAnyH_ready (rs := [3]) (by kernel_rfl) (by simp) ?_
      refine AllReadyH.cons (o := _) rfl (fun K hK => ?_) AllReadyH.nil
      have DN := Lib.hid (D2.out.below (below1 W2 (.cells #[.int .i64 1, .int .i64 21] 2)))
      have HR : Hid (Row (W2.alloc (.cells #[.int .i64 1, .int .i64 21] 2)) .i64 (.slice (some ⟨W2.heap.size, 0, none⟩) 2 2) [1, 21]) := Lib.hid (lit_row W2 2 .i64 [1, 21] 2 rfl (by decide))
      have hlb : W2.heap.size ≠ b := by have := D2.out.src.lt; omega
      go_simp
      refine hK.out _ _ ?_ (fun hHeld => ?_)
      · exact trivial
      clear hK K
      try simp only [Act.put, List.getElem_toArray, List.getElem_cons_zero, List.getElem_cons_succ, List.setIfInBounds_toArray, List.set_cons_zero, List.set_cons_succ]
      clear D2
      have D2 := DN
      clear DN
      generalize W2.heap.size = lb at HR hlb ⊢
      generalize W2.alloc (.cells #[.int .i64 1, .int .i64 21] 2) = W2b at *
      obtain ⟨W2, hW2⟩ : ∃ W2, W2 = W2b := ⟨_, rfl⟩
      subst hW2
      refine wpAnyH_ready (rs := [4]) (by kernel_rfl) (by simp) ?_
      refine AllReadyH.cons (o := _) rfl (fun K hK => ?_) AllReadyH.nil
      have KP := l1Pick_any b a n c xs (k1 + 1) lb 2 [1, 21] rfl (by decide) (by decide) (by omega) _ D2.out.src HR.out hlb
      unfold PickRes at KP
      go_simp
      refine KP.mono ?_
      clear KP HR
      rintro e W3 ⟨d, rfl, hdm, hs, hg⟩
      obtain ⟨kk, rfl, hkk0, hkk⟩ : ∃ kk : Nat, d = (kk : Int) ∧ 0 < kk ∧ kk ≤ 21 := by
        simp only [List.mem_cons, List.not_mem_nil, or_false] at hdm
        rcases hdm with rfl | rfl
        · exact ⟨1, rfl, by decide, by decide⟩
        · exact ⟨21, rfl, by decide, by decide⟩
      have DN := Lib.hid (D2.out.call hs hg)
      clear hs hg hdm D2
      have D2 := DN
      clear DN
      go_wp2_with fail
      refine hK.out _ _ ?_ (fun hHeld => ?_)
      · exact trivial
      clear hK K
      try simp only [Act.put, List.getElem_toArray, List.getElem_cons_zero, List.getElem_cons_succ, List.setIfInBounds_toArray, List.set_cons_zero, List.set_cons_succ]
      obtain ⟨W2, hW2⟩ : ∃ W2, W2 = W3 := ⟨_, rfl⟩
      subst hW2
      have GW := (GM.out.onlyP D2.out.on (fun i h1 h2 hp => by rcases hp with e | e | e | e <;> omega))
      have hsB : w.heap.size + 1 ≤ W2.heap.size := by have := D2.out.gr.size; have := D2.out.res.lt; omega
      refine wpAnyH_ready (rs := [5]) (by kernel_rfl) (by simp) ?_
      refine AllReadyH.cons (o := _) rfl (fun K hK => ?_) AllReadyH.nil
      refine step_zeros (by rfl) _ _ 24 2 rfl (w.heap.size + 1) 67 i0 (.agg #[.int .i64 0, .string ByteArray.empty, .string ByteArray.empty, .string ByteArray.empty, .slice none 0 0]) 5 80 .i64 .i64 Tryz.underlying24 Tryz.underlying2 hi hz0 hi1 hz2 rfl (by decide) _ m _ (by rfl) GW.row (.inr ⟨x, q, rfl⟩) kk (by rfl) hkk0 (zeros_one kk) (by unfold maxLen; omega) (by omega) hsB ?_
      intro v' W7 hown hgr hat
      obtain ⟨a8, c8, rfl⟩ := owns_slice hown
      obtain ⟨x8, rfl⟩ := owns_some hown (by omega)
      have hrow : ∀ g, (Value.slice (some x) m q).ownBlock = some g → w.heap.size + 1 ≤ g ∧ g ≠ xp := fun g e => by have h1 := GM.out.row.lt g e; omega
      have G8 := Lib.hid (grow_more GW (zeros_at kk) hsB hown hgr hat)
      have D8 := Lib.hid (D2.out.regrow hgr (fun g e => by have := hrow g e; omega))
      have hRow8 : ∀ g, (Value.slice (some x8) (m + kk) c8).ownBlock = some g → w.heap.size + 1 ≤ g ∧ g < W7.heap.size ∧ g ≠ xp := fun g e => ⟨(G8.out.row.lt g e).1, (G8.out.row.lt g e).2, by
        rcases hat with h | h
        · rw [h] at e
          exact (hrow g e).2
        · rw [h] at e
          simp only [Option.some.injEq] at e
          have := D2.out.box.lt
          omega⟩
      have hAts8 : ∀ i, i < (l ++ List.replicate kk dIt).length → ∀ y, (joinA l.length A (fun _ => none)) i = some y → (joinA l.length N (fun _ => 0)) i ≠ 0 → w.heap.size + 1 ≤ y.block ∧ y.block < xp := fun i hi y hy hn => by
        unfold joinA at hy hn
        by_cases e : i < l.length
        · rw [if_pos e] at hy hn
          have := (GM.out.ats i e).1.in hy hn
          omega
        · rw [if_neg e] at hy
          cases hy
      have hx7 : xp < W7.heap.size := D8.out.box.lt
      have y6 := D8.out.box.c6
      have fz6 := D8.out.box.fz 6 (by decide)
      have lx := D8.out.box.lt
      have D9 : Hid (D7 w W7 (W7.setCell ⟨xp, 6, none⟩ (.slice (some x8) (m + kk) c8)) b a n c xs (k1 + 1 + 1) xp (.int .i64 yk) (.string yf) (.string yt) (.int .i64 ys) (.string yu) (.int .i64 yp) (.slice (some x8) (m + kk) c8)) := Lib.hid (D8.out.set 6 (.slice (some x8) (m + kk) c8) (by decide) ⟨rfl, rfl, rfl, rfl, rfl, rfl, rfl⟩)
      have HD8 := Lib.hid (drawn_more HD5.out kk)
      refine hK.out _ _ ?_ (fun hHeld => ?_)
      · exact trivial
      clear hK K
      try simp only [Act.put, List.getElem_toArray, List.getElem_cons_zero, List.getElem_cons_succ, List.setIfInBounds_toArray, List.set_cons_zero, List.set_cons_succ]
      refine wpAnyH_take (i := 6) (oi := _) (v := ?_) rfl (by kernel_rfl) (by kernel_rfl) (by kernel_rfl) (fun _ _ _ h => h) (Or.inl ⟨by rfl, ?_⟩) (by with_reducible assumption) ?_
      rotate_left
      · intro Wz hSw
        clear hSw
        go_simp
        all_goals (with_reducible rfl)
      try simp only [Act.put, List.getElem_toArray, List.getElem_cons_zero, List.getElem_cons_succ, List.setIfInBounds_toArray, List.set_cons_zero, List.set_cons_succ]
      refine wpAnyH_ready (rs := [7]) (by kernel_rfl) (by simp) ?_
      refine AllReadyH.cons (o := _) rfl (fun K hK => ?_) AllReadyH.nil
      go_simp
      refine hK.out _ _ ?_ (fun hHeld => ?_)
      · exact trivial
      clear hK K
      try simp only [Act.put, List.getElem_toArray, List.getElem_cons_zero, List.getElem_cons_succ, List.setIfInBounds_toArray, List.set_cons_zero, List.set_cons_succ]
      refine wpAnyH_done (by kernel_rfl) ?_ _
      refine NoPanic.normal ?_
      clear hown hgr hat y6 fz6 lx D2 GM
      go_upto_region 17 with fail
      generalize hw9 : W7.setCell ⟨xp, 6, none⟩ (.slice (some x8) (m + kk) c8) = W9 at *
      obtain ⟨-, d0, d1, d2, d3, d4, d5, d6, -⟩ := D9.out.box
      obtain ⟨-, e0, e1, e2, e3, e4, e5, e6, -⟩ := D9.out.res
      have g0 := D9.out.res.fz 0 (by decide)
      have g1 := D9.out.res.fz 1 (by decide)
      have g2 := D9.out.res.fz 2 (by decide)
      have g3 := D9.out.res.fz 3 (by decide)
      have g4 := D9.out.res.fz 4 (by decide)
      have g5 := D9.out.res.fz 5 (by decide)
      have g6 := D9.out.res.fz 6 (by decide)
      obtain ⟨Zx, Zs, Zg, Zo⟩ := D9.out.done
      have z0 := Zx.c0
      have z1 := Zx.c1
      have z2 := Zx.c2
      have z3 := Zx.c3
      have z4 := Zx.c4
      have z5 := Zx.c5
      have z6 := Zx.c6
      have GI := Lib.hid ((G8.out.onlyX Zo (fun g e hp => by have := hRow8 g e; rcases hp with hp | hp | hp | hp <;> omega) (fun i hi y hy hn hp => by have := hAts8 i hi y hy hn; rcases hp with hp | hp | hp | hp <;> omega)).base (B' := w.heap.size) (by omega))
      have ZS := Lib.hid Zs
      have ZG := Lib.hid Zg
      clear Zx Zo Zs Zg
      go_wp2
      refine bodyPost_ret (v := .agg #[.int .i64 yk, .string yf, .string yt, .int .i64 ys, .string yu, .int .i64 yp, .slice (some x8) (m + kk) c8]) (by simp [results, Tryz.results50, go_sem, z0, z1, z2, z3, z4, z5, z6, e0, e1, e2, e3, e4, e5, e6]) rfl (by unfold PrBent; exact ⟨⟨yk, yf, yt, ys, yu, yp, l ++ List.replicate kk dIt⟩, x8, m + kk, c8, _, _, _, k1 + 1 + 1, rfl, GI.out, by omega, ⟨⟨by show -1000 ≤ (yk : Int); omega, by show (yk : Int) ≤ 1000; omega⟩, by show yf.size ≤ 61; omega, by show yt.size ≤ 61; omega, ⟨by show -1000 ≤ (ys : Int); omega, by show (ys : Int) ≤ 1000; omega⟩, by show yu.size ≤ 61; omega, ⟨by show -1000 ≤ (yp : Int); omega, by show (yp : Int) ≤ 1000; omega⟩, by show (l ++ List.replicate kk dIt).length ≤ 60; rw [List.length_append, List.length_replicate, hlm]; omega, HD8.out⟩, by omega, ZS.out, ZG.out⟩)
    · have DN := Lib.hid (D2.out.below (below1 W2 (.cells #[.int .i64 1, .int .i64 21] 2)))
      have HR : Hid (Row (W2.alloc (.cells #[.int .i64 1, .int .i64 21] 2)) .i64 (.slice (some ⟨W2.heap.size, 0, none⟩) 2 2) [1, 21]) := Lib.hid (lit_row W2 2 .i64 [1, 21] 2 rfl (by decide))
      have hlb : W2.heap.size ≠ b := by have := D2.out.src.lt; omega
      go_simp
      refine hK.out _ _ ?_ (fun hHeld => ?_)
      · exact trivial
      clear hK K
      try simp only [Act.put, List.getElem_toArray, List.getElem_cons_zero, List.getElem_cons_succ, List.setIfInBounds_toArray, List.set_cons_zero, List.set_cons_succ]
      clear D2
      have D2 := DN
      clear DN
      generalize W2.heap.size = lb at HR hlb ⊢
      generalize W2.alloc (.cells #[.int .i64 1, .int .i64 21] 2) = W2b at *
      obtain ⟨W2, hW2⟩ : ∃ W2, W2 = W2b := ⟨_, rfl⟩
      subst hW2
      refine wpAnyH_ready (rs := [1, 4]) (by kernel_rfl) (by simp) ?_
      refine AllReadyH.cons (o := _) rfl (fun K hK => ?_) (AllReadyH.cons (o := _) rfl (fun K hK => ?_) AllReadyH.nil)
      · have y6 := D2.out.box.c6
        go_simp
        refine hK.out _ _ ?_ (fun hHeld => ?_)
        · exact trivial
        clear hK K
        try simp only [Act.put, List.getElem_toArray, List.getElem_cons_zero, List.getElem_cons_succ, List.setIfInBounds_toArray, List.set_cons_zero, List.set_cons_succ]
        clear y6
        refine wpAnyH_ready (rs := [4]) (by kernel_rfl) (by simp) ?_
        refine AllReadyH.cons (o := _) rfl (fun K hK => ?_) AllReadyH.nil
        have KP := l1Pick_any b a n c xs (k1 + 1) lb 2 [1, 21] rfl (by decide) (by decide) (by omega) _ D2.out.src HR.out hlb
        unfold PickRes at KP
        go_simp
        refine KP.mono ?_
        clear KP HR
        rintro e W3 ⟨d, rfl, hdm, hs, hg⟩
        obtain ⟨kk, rfl, hkk0, hkk⟩ : ∃ kk : Nat, d = (kk : Int) ∧ 0 < kk ∧ kk ≤ 21 := by
          simp only [List.mem_cons, List.not_mem_nil, or_false] at hdm
          rcases hdm with rfl | rfl
          · exact ⟨1, rfl, by decide, by decide⟩
          · exact ⟨21, rfl, by decide, by decide⟩
        have DN := Lib.hid (D2.out.call hs hg)
        clear hs hg hdm D2
        have D2 := DN
        clear DN
        go_wp2_with fail
        refine hK.out _ _ ?_ (fun hHeld => ?_)
        · exact trivial
        clear hK K
        try simp only [Act.put, List.getElem_toArray, List.getElem_cons_zero, List.getElem_cons_succ, List.setIfInBounds_toArray, List.set_cons_zero, List.set_cons_succ]
        obtain ⟨W2, hW2⟩ : ∃ W2, W2 = W3 := ⟨_, rfl⟩
        subst hW2
        have GW := (GM.out.onlyP D2.out.on (fun i h1 h2 hp => by rcases hp with e | e | e | e <;> omega))
        have hsB : w.heap.size + 1 ≤ W2.heap.size := by have := D2.out.gr.size; have := D2.out.res.lt; omega
        refine wpAnyH_ready (rs := [5]) (by kernel_rfl) (by simp) ?_
        refine AllReadyH.cons (o := _) rfl (fun K hK => ?_) AllReadyH.nil
        refine step_zeros (by rfl) _ _ 24 2 rfl (w.heap.size + 1) 67 i0 (.agg #[.int .i64 0, .string ByteArray.empty, .string ByteArray.empty, .string ByteArray.empty, .slice none 0 0]) 5 80 .i64 .i64 Tryz.underlying24 Tryz.underlying2 hi hz0 hi1 hz2 rfl (by decide) _ m _ (by rfl) GW.row (.inr ⟨x, q, rfl⟩) kk (by rfl) hkk0 (zeros_one kk) (by unfold maxLen; omega) (by omega) hsB ?_
        intro v' W7 hown hgr hat
        obtain ⟨a8, c8, rfl⟩ := owns_slice hown
        obtain ⟨x8, rfl⟩ := owns_some hown (by omega)
        have hrow : ∀ g, (Value.slice (some x) m q).ownBlock = some g → w.heap.size + 1 ≤ g ∧ g ≠ xp := fun g e => by have h1 := GM.out.row.lt g e; omega
        have G8 := Lib.hid (grow_more GW (zeros_at kk) hsB hown hgr hat)
        have D8 := Lib.hid (D2.out.regrow hgr (fun g e => by have := hrow g e; omega))
        have hRow8 : ∀ g, (Value.slice (some x8) (m + kk) c8).ownBlock = some g → w.heap.size + 1 ≤ g ∧ g < W7.heap.size ∧ g ≠ xp := fun g e => ⟨(G8.out.row.lt g e).1, (G8.out.row.lt g e).2, by
          rcases hat with h | h
          · rw [h] at e
            exact (hrow g e).2
          · rw [h] at e
            simp only [Option.some.injEq] at e
            have := D2.out.box.lt
            omega⟩
        have hAts8 : ∀ i, i < (l ++ List.replicate kk dIt).length → ∀ y, (joinA l.length A (fun _ => none)) i = some y → (joinA l.length N (fun _ => 0)) i ≠ 0 → w.heap.size + 1 ≤ y.block ∧ y.block < xp := fun i hi y hy hn => by
          unfold joinA at hy hn
          by_cases e : i < l.length
          · rw [if_pos e] at hy hn
            have := (GM.out.ats i e).1.in hy hn
            omega
          · rw [if_neg e] at hy
            cases hy
        have hx7 : xp < W7.heap.size := D8.out.box.lt
        have y6 := D8.out.box.c6
        have fz6 := D8.out.box.fz 6 (by decide)
        have lx := D8.out.box.lt
        have D9 : Hid (D7 w W7 (W7.setCell ⟨xp, 6, none⟩ (.slice (some x8) (m + kk) c8)) b a n c xs (k1 + 1 + 1) xp (.int .i64 yk) (.string yf) (.string yt) (.int .i64 ys) (.string yu) (.int .i64 yp) (.slice (some x8) (m + kk) c8)) := Lib.hid (D8.out.set 6 (.slice (some x8) (m + kk) c8) (by decide) ⟨rfl, rfl, rfl, rfl, rfl, rfl, rfl⟩)
        have HD8 := Lib.hid (drawn_more HD5.out kk)
        refine hK.out _ _ ?_ (fun hHeld => ?_)
        · exact trivial
        clear hK K
        try simp only [Act.put, List.getElem_toArray, List.getElem_cons_zero, List.getElem_cons_succ, List.setIfInBounds_toArray, List.set_cons_zero, List.set_cons_succ]
        refine wpAnyH_take (i := 6) (oi := _) (v := ?_) rfl (by kernel_rfl) (by kernel_rfl) (by kernel_rfl) (fun _ _ _ h => h) (Or.inl ⟨by rfl, ?_⟩) (by with_reducible assumption) ?_
        rotate_left
        · intro Wz hSw
          clear hSw
          go_simp
          all_goals (with_reducible rfl)
        try simp only [Act.put, List.getElem_toArray, List.getElem_cons_zero, List.getElem_cons_succ, List.setIfInBounds_toArray, List.set_cons_zero, List.set_cons_succ]
        refine wpAnyH_ready (rs := [7]) (by kernel_rfl) (by simp) ?_
        refine AllReadyH.cons (o := _) rfl (fun K hK => ?_) AllReadyH.nil
        go_simp
        refine hK.out _ _ ?_ (fun hHeld => ?_)
        · exact trivial
        clear hK K
        try simp only [Act.put, List.getElem_toArray, List.getElem_cons_zero, List.getElem_cons_succ, List.setIfInBounds_toArray, List.set_cons_zero, List.set_cons_succ]
        refine wpAnyH_done (by kernel_rfl) ?_ _
        refine NoPanic.normal ?_
        clear hown hgr hat y6 fz6 lx D2 GM
        go_upto_region 17 with fail
        generalize hw9 : W7.setCell ⟨xp, 6, none⟩ (.slice (some x8) (m + kk) c8) = W9 at *
        obtain ⟨-, d0, d1, d2, d3, d4, d5, d6, -⟩ := D9.out.box
        obtain ⟨-, e0, e1, e2, e3, e4, e5, e6, -⟩ := D9.out.res
        have g0 := D9.out.res.fz 0 (by decide)
        have g1 := D9.out.res.fz 1 (by decide)
        have g2 := D9.out.res.fz 2 (by decide)
        have g3 := D9.out.res.fz 3 (by decide)
        have g4 := D9.out.res.fz 4 (by decide)
        have g5 := D9.out.res.fz 5 (by decide)
        have g6 := D9.out.res.fz 6 (by decide)
        obtain ⟨Zx, Zs, Zg, Zo⟩ := D9.out.done
        have z0 := Zx.c0
        have z1 := Zx.c1
        have z2 := Zx.c2
        have z3 := Zx.c3
        have z4 := Zx.c4
        have z5 := Zx.c5
        have z6 := Zx.c6
        have GI := Lib.hid ((G8.out.onlyX Zo (fun g e hp => by have := hRow8 g e; rcases hp with hp | hp | hp | hp <;> omega) (fun i hi y hy hn hp => by have := hAts8 i hi y hy hn; rcases hp with hp | hp | hp | hp <;> omega)).base (B' := w.heap.size) (by omega))
        have ZS := Lib.hid Zs
        have ZG := Lib.hid Zg
        clear Zx Zo Zs Zg
        go_wp2
        refine bodyPost_ret (v := .agg #[.int .i64 yk, .string yf, .string yt, .int .i64 ys, .string yu, .int .i64 yp, .slice (some x8) (m + kk) c8]) (by simp [results, Tryz.results50, go_sem, z0, z1, z2, z3, z4, z5, z6, e0, e1, e2, e3, e4, e5, e6]) rfl (by unfold PrBent; exact ⟨⟨yk, yf, yt, ys, yu, yp, l ++ List.replicate kk dIt⟩, x8, m + kk, c8, _, _, _, k1 + 1 + 1, rfl, GI.out, by omega, ⟨⟨by show -1000 ≤ (yk : Int); omega, by show (yk : Int) ≤ 1000; omega⟩, by show yf.size ≤ 61; omega, by show yt.size ≤ 61; omega, ⟨by show -1000 ≤ (ys : Int); omega, by show (ys : Int) ≤ 1000; omega⟩, by show yu.size ≤ 61; omega, ⟨by show -1000 ≤ (yp : Int); omega, by show (yp : Int) ≤ 1000; omega⟩, by show (l ++ List.replicate kk dIt).length ≤ 60; rw [List.length_append, List.length_replicate, hlm]; omega, HD8.out⟩, by omega, ZS.out, ZG.out⟩)
      · have KP := l1Pick_any b a n c xs (k1 + 1) lb 2 [1, 21] rfl (by decide) (by decide) (by omega) _ D2.out.src HR.out hlb
        unfold PickRes at KP
        go_simp
        refine KP.mono ?_
        clear KP HR
        rintro e W3 ⟨d, rfl, hdm, hs, hg⟩
        obtain ⟨kk, rfl, hkk0, hkk⟩ : ∃ kk : Nat, d = (kk : Int) ∧ 0 < kk ∧ kk ≤ 21 := by
          simp only [List.mem_cons, List.not_mem_nil, or_false] at hdm
          rcases hdm with rfl | rfl
          · exact ⟨1, rfl, by decide, by decide⟩
          · exact ⟨21, rfl, by decide, by decide⟩
        have DN := Lib.hid (D2.out.call hs hg)
        clear hs hg hdm D2
        have D2 := DN
        clear DN
        go_wp2_with fail
        refine hK.out _ _ ?_ (fun hHeld => ?_)
        · exact trivial
        clear hK K
        try simp only [Act.put, List.getElem_toArray, List.getElem_cons_zero, List.getElem_cons_succ, List.setIfInBounds_toArray, List.set_cons_zero, List.set_cons_succ]
        obtain ⟨W2, hW2⟩ : ∃ W2, W2 = W3 := ⟨_, rfl⟩
        subst hW2
        refine wpAnyH_ready (rs := [1]) (by kernel_rfl) (by simp) ?_
        refine AllReadyH.cons (o := _) rfl (fun K hK => ?_) AllReadyH.nil
        have y6 := D2.out.box.c6
        go_simp
        refine hK.out _ _ ?_ (fun hHeld => ?_)
        · exact trivial
        clear hK K
        try simp only [Act.put, List.getElem_toArray, List.getElem_cons_zero, List.getElem_cons_succ, List.setIfInBounds_toArray, List.set_cons_zero, List.set_cons_succ]
        clear y6
        have GW := (GM.out.onlyP D2.out.on (fun i h1 h2 hp => by rcases hp with e | e | e | e <;> omega))
        have hsB : w.heap.size + 1 ≤ W2.heap.size := by have := D2.out.gr.size; have := D2.out.res.lt; omega
        refine wpAnyH_ready (rs := [5]) (by kernel_rfl) (by simp) ?_
        refine AllReadyH.cons (o := _) rfl (fun K hK => ?_) AllReadyH.nil
        refine step_zeros (by rfl) _ _ 24 2 rfl (w.heap.size + 1) 67 i0 (.agg #[.int .i64 0, .string ByteArray.empty, .string ByteArray.empty, .string ByteArray.empty, .slice none 0 0]) 5 80 .i64 .i64 Tryz.underlying24 Tryz.underlying2 hi hz0 hi1 hz2 rfl (by decide) _ m _ (by rfl) GW.row (.inr ⟨x, q, rfl⟩) kk (by rfl) hkk0 (zeros_one kk) (by unfold maxLen; omega) (by omega) hsB ?_
        intro v' W7 hown hgr hat
        obtain ⟨a8, c8, rfl⟩ := owns_slice hown
        obtain ⟨x8, rfl⟩ := owns_some hown (by omega)
        have hrow : ∀ g, (Value.slice (some x) m q).ownBlock = some g → w.heap.size + 1 ≤ g ∧ g ≠ xp := fun g e => by have h1 := GM.out.row.lt g e; omega
        have G8 := Lib.hid (grow_more GW (zeros_at kk) hsB hown hgr hat)
        have D8 := Lib.hid (D2.out.regrow hgr (fun g e => by have := hrow g e; omega))
        have hRow8 : ∀ g, (Value.slice (some x8) (m + kk) c8).ownBlock = some g → w.heap.size + 1 ≤ g ∧ g < W7.heap.size ∧ g ≠ xp := fun g e => ⟨(G8.out.row.lt g e).1, (G8.out.row.lt g e).2, by
          rcases hat with h | h
          · rw [h] at e
            exact (hrow g e).2
          · rw [h] at e
            simp only [Option.some.injEq] at e
            have := D2.out.box.lt
            omega⟩
        have hAts8 : ∀ i, i < (l ++ List.replicate kk dIt).length → ∀ y, (joinA l.length A (fun _ => none)) i = some y → (joinA l.length N (fun _ => 0)) i ≠ 0 → w.heap.size + 1 ≤ y.block ∧ y.block < xp := fun i hi y hy hn => by
          unfold joinA at hy hn
          by_cases e : i < l.length
          · rw [if_pos e] at hy hn
            have := (GM.out.ats i e).1.in hy hn
            omega
          · rw [if_neg e] at hy
            cases hy
        have hx7 : xp < W7.heap.size := D8.out.box.lt
        have y6 := D8.out.box.c6
        have fz6 := D8.out.box.fz 6 (by decide)
        have lx := D8.out.box.lt
        have D9 : Hid (D7 w W7 (W7.setCell ⟨xp, 6, none⟩ (.slice (some x8) (m + kk) c8)) b a n c xs (k1 + 1 + 1) xp (.int .i64 yk) (.string yf) (.string yt) (.int .i64 ys) (.string yu) (.int .i64 yp) (.slice (some x8) (m + kk) c8)) := Lib.hid (D8.out.set 6 (.slice (some x8) (m + kk) c8) (by decide) ⟨rfl, rfl, rfl, rfl, rfl, rfl, rfl⟩)
        have HD8 := Lib.hid (drawn_more HD5.out kk)
        refine hK.out _ _ ?_ (fun hHeld => ?_)
        · exact trivial
        clear hK K
        try simp only [Act.put, List.getElem_toArray, List.getElem_cons_zero, List.getElem_cons_succ, List.setIfInBounds_toArray, List.set_cons_zero, List.set_cons_succ]
        refine wpAnyH_take (i := 6) (oi := _) (v := ?_) rfl (by kernel_rfl) (by kernel_rfl) (by kernel_rfl) (fun _ _ _ h => h) (Or.inl ⟨by rfl, ?_⟩) (by with_reducible assumption) ?_
        rotate_left
        · intro Wz hSw
          clear hSw
          go_simp
          all_goals (with_reducible rfl)
        try simp only [Act.put, List.getElem_toArray, List.getElem_cons_zero, List.getElem_cons_succ, List.setIfInBounds_toArray, List.set_cons_zero, List.set_cons_succ]
        refine wpAnyH_ready (rs := [7]) (by kernel_rfl) (by simp) ?_
        refine AllReadyH.cons (o := _) rfl (fun K hK => ?_) AllReadyH.nil
        go_simp
        refine hK.out _ _ ?_ (fun hHeld => ?_)
        · exact trivial
        clear hK K
        try simp only [Act.put, List.getElem_toArray, List.getElem_cons_zero, List.getElem_cons_succ, List.setIfInBounds_toArray, List.set_cons_zero, List.set_cons_succ]
        refine wpAnyH_done (by kernel_rfl) ?_ _
        refine NoPanic.normal ?_
        clear hown hgr hat y6 fz6 lx D2 GM
        go_upto_region 17 with fail
        generalize hw9 : W7.setCell ⟨xp, 6, none⟩ (.slice (some x8) (m + kk) c8) = W9 at *
        obtain ⟨-, d0, d1, d2, d3, d4, d5, d6, -⟩ := D9.out.box
        obtain ⟨-, e0, e1, e2, e3, e4, e5, e6, -⟩ := D9.out.res
        have g0 := D9.out.res.fz 0 (by decide)
        have g1 := D9.out.res.fz 1 (by decide)
        have g2 := D9.out.res.fz 2 (by decide)
        have g3 := D9.out.res.fz 3 (by decide)
        have g4 := D9.out.res.fz 4 (by decide)
        have g5 := D9.out.res.fz 5 (by decide)
        have g6 := D9.out.res.fz 6 (by decide)
        obtain ⟨Zx, Zs, Zg, Zo⟩ := D9.out.done
        have z0 := Zx.c0
        have z1 := Zx.c1
        have z2 := Zx.c2
        have z3 := Zx.c3
        have z4 := Zx.c4
        have z5 := Zx.c5
        have z6 := Zx.c6
        have GI := Lib.hid ((G8.out.onlyX Zo (fun g e hp => by have := hRow8 g e; rcases hp with hp | hp | hp | hp <;> omega) (fun i hi y hy hn hp => by have := hAts8 i hi y hy hn; rcases hp with hp | hp | hp | hp <;> omega)).base (B' := w.heap.size) (by omega))
        have ZS := Lib.hid Zs
        have ZG := Lib.hid Zg
        clear Zx Zo Zs Zg
        go_wp2
        refine bodyPost_ret (v := .agg #[.int .i64 yk, .string yf, .string yt, .int .i64 ys, .string yu, .int .i64 yp, .slice (some x8) (m + kk) c8]) (by simp [results, Tryz.results50, go_sem, z0, z1, z2, z3, z4, z5, z6, e0, e1, e2, e3, e4, e5, e6]) rfl (by unfold PrBent; exact ⟨⟨yk, yf, yt, ys, yu, yp, l ++ List.replicate kk dIt⟩, x8, m + kk, c8, _, _, _, k1 + 1 + 1, rfl, GI.out, by omega, ⟨⟨by show -1000 ≤ (yk : Int); omega, by show (yk : Int) ≤ 1000; omega⟩, by show yf.size ≤ 61; omega, by show yt.size ≤ 61; omega, ⟨by show -1000 ≤ (ys : Int); omega, by show (ys : Int) ≤ 1000; omega⟩, by show yu.size ≤ 61; omega, ⟨by show -1000 ≤ (yp : Int); omega, by show (yp : Int) ≤ 1000; omega⟩, by show (l ++ List.replicate kk dIt).length ≤ 60; rw [List.length_append, List.length_replicate, hlm]; omega, HD8.out⟩, by omega, ZS.out, ZG.out⟩)
  by_cases t6 : tt = 6
  · subst t6
    have c1 := D2.out.box.c1
    have f1 := D2.out.box.fz 1 (by decide)
    have lx := D2.out.box.lt
    have D4 := Lib.hid (D2.out.set 1 (.string ⟨#[97, 98, 99, 100, 101, 102, 103, 104, 105, 106, 107, 108, 109, 110, 111, 112, 113, 114, 115, 116, 117, 118, 119, 120, 121, 122, 97, 98, 99, 100, 101, 102, 103, 104, 105, 106, 107, 108, 109, 110, 111, 112, 113, 114, 115, 116, 117, 118, 119, 120, 121, 122, 97, 98, 99, 100, 101, 102, 103, 104, 105]⟩) (by decide) ⟨rfl, rfl, rfl, rfl, rfl, rfl, rfl⟩)
    go_upto_region 17 with fail
    generalize W2.setCell ⟨xp, 1, none⟩ (.string ⟨#[97, 98, 99, 100, 101, 102, 103, 104, 105, 106, 107, 108, 109, 110, 111, 112, 113, 114, 115, 116, 117, 118, 119, 120, 121, 122, 97, 98, 99, 100, 101, 102, 103, 104, 105, 106, 107, 108, 109, 110, 111, 112, 113, 114, 115, 116, 117, 118, 119, 120, 121, 122, 97, 98, 99, 100, 101, 102, 103, 104, 105]⟩) = W4 at *
    clear c1 f1 lx
    obtain ⟨-, d0, d1, d2, d3, d4, d5, d6, -⟩ := D4.out.box
    obtain ⟨-, e0, e1, e2, e3, e4, e5, e6, -⟩ := D4.out.res
    have g0 := D4.out.res.fz 0 (by decide)
    have g1 := D4.out.res.fz 1 (by decide)
    have g2 := D4.out.res.fz 2 (by decide)
    have g3 := D4.out.res.fz 3 (by decide)
    have g4 := D4.out.res.fz 4 (by decide)
    have g5 := D4.out.res.fz 5 (by decide)
    have g6 := D4.out.res.fz 6 (by decide)
    obtain ⟨Zx, Zs, Zg, Zo⟩ := D4.out.done
    have z0 := Zx.c0
    have z1 := Zx.c1
    have z2 := Zx.c2
    have z3 := Zx.c3
    have z4 := Zx.c4
    have z5 := Zx.c5
    have z6 := Zx.c6
    have GI := Lib.hid (D7.its GM.out Zo hb0 (by omega) hxs)
    have ZS := Lib.hid Zs
    have ZG := Lib.hid Zg
    clear Zx Zo Zs Zg
    go_wp2
    refine bodyPost_ret (v := .agg #[.int .i64 yk, .string ⟨#[97, 98, 99, 100, 101, 102, 103, 104, 105, 106, 107, 108, 109, 110, 111, 112, 113, 114, 115, 116, 117, 118, 119, 120, 121, 122, 97, 98, 99, 100, 101, 102, 103, 104, 105, 106, 107, 108, 109, 110, 111, 112, 113, 114, 115, 116, 117, 118, 119, 120, 121, 122, 97, 98, 99, 100, 101, 102, 103, 104, 105]⟩, .string yt, .int .i64 ys, .string yu, .int .i64 yp, .slice (some x) m q]) (by simp [results, Tryz.results50, go_sem, z0, z1, z2, z3, z4, z5, z6, e0, e1, e2, e3, e4, e5, e6]) rfl (by unfold PrBent; exact ⟨⟨yk, ⟨#[97, 98, 99, 100, 101, 102, 103, 104, 105, 106, 107, 108, 109, 110, 111, 112, 113, 114, 115, 116, 117, 118, 119, 120, 121, 122, 97, 98, 99, 100, 101, 102, 103, 104, 105, 106, 107, 108, 109, 110, 111, 112, 113, 114, 115, 116, 117, 118, 119, 120, 121, 122, 97, 98, 99, 100, 101, 102, 103, 104, 105]⟩, yt, ys, yu, yp, l⟩, x, m, q, A, N, C, k1 + 1, rfl, GI.out, by omega, ⟨⟨by show -1000 ≤ (yk : Int); omega, by show (yk : Int) ≤ 1000; omega⟩, by show (⟨#[97, 98, 99, 100, 101, 102, 103, 104, 105, 106, 107, 108, 109, 110, 111, 112, 113, 114, 115, 116, 117, 118, 119, 120, 121, 122, 97, 98, 99, 100, 101, 102, 103, 104, 105, 106, 107, 108, 109, 110, 111, 112, 113, 114, 115, 116, 117, 118, 119, 120, 121, 122, 97, 98, 99, 100, 101, 102, 103, 104, 105]⟩ : ByteArray).size ≤ 61; decide, by show yt.size ≤ 61; omega, ⟨by show -1000 ≤ (ys : Int); omega, by show (ys : Int) ≤ 1000; omega⟩, by show yu.size ≤ 61; omega, ⟨by show -1000 ≤ (yp : Int); omega, by show (yp : Int) ≤ 1000; omega⟩, by show l.length ≤ 60; omega, HD5.out⟩, by omega, ZS.out, ZG.out⟩)
  go_upto_region 17 with fail
  obtain ⟨-, d0, d1, d2, d3, d4, d5, d6, -⟩ := D2.out.box
  obtain ⟨-, e0, e1, e2, e3, e4, e5, e6, -⟩ := D2.out.res
  have g0 := D2.out.res.fz 0 (by decide)
  have g1 := D2.out.res.fz 1 (by decide)
  have g2 := D2.out.res.fz 2 (by decide)
  have g3 := D2.out.res.fz 3 (by decide)
  have g4 := D2.out.res.fz 4 (by decide)
  have g5 := D2.out.res.fz 5 (by decide)
  have g6 := D2.out.res.fz 6 (by decide)
  obtain ⟨Zx, Zs, Zg, Zo⟩ := D2.out.done
  have z0 := Zx.c0
  have z1 := Zx.c1
  have z2 := Zx.c2
  have z3 := Zx.c3
  have z4 := Zx.c4
  have z5 := Zx.c5
  have z6 := Zx.c6
  have GI := Lib.hid (D7.its GM.out Zo hb0 (by omega) hxs)
  have ZS := Lib.hid Zs
  have ZG := Lib.hid Zg
  clear Zx Zo Zs Zg
  go_wp2
  refine bodyPost_ret (v := .agg #[.int .i64 yk, .string yf, .string yt, .int .i64 ys, .string yu, .int .i64 yp, .slice (some x) m q]) (by simp [results, Tryz.results50, go_sem, z0, z1, z2, z3, z4, z5, z6, e0, e1, e2, e3, e4, e5, e6]) rfl (by unfold PrBent; exact ⟨⟨yk, yf, yt, ys, yu, yp, l⟩, x, m, q, A, N, C, k1 + 1, rfl, GI.out, by omega, ⟨⟨by show -1000 ≤ (yk : Int); omega, by show (yk : Int) ≤ 1000; omega⟩, by show yf.size ≤ 61; omega, by show yt.size ≤ 61; omega, ⟨by show -1000 ≤ (ys : Int); omega, by show (ys : Int) ≤ 1000; omega⟩, by show yu.size ≤ 61; omega, ⟨by show -1000 ≤ (yp : Int); omega, by show (yp : Int) ≤ 1000; omega⟩, by show l.length ≤ 60; omega, HD5.out⟩, by omega, ZS.out, ZG.out⟩)
set_option maxRecDepth 100000 in
set_option maxHeartbeats 3200000 in
theorem l8Draw_any (b : Nat) (a : Option Addr) (n c : Nat) (xs : List Int) (k : Nat) (hk : k + 20000 < 1000000) (w : World) (h : Src w b a n c xs k) :
    Calls Tryz.prog 83 #[.pointer (some ⟨b, 0, none⟩)] w (PrBent w b a n c xs (k + 20)) := by
  have hb0 := h.lt
  have hbA := below1 w (.cells #[.int .i64 0, .string ⟨#[]⟩, .string ⟨#[]⟩, .int .i64 0, .string ⟨#[]⟩, .int .i64 0, .slice none 0 0] 26)
  have XR := Lib.hid (X7.new w 26 (.int .i64 0) (.string ⟨#[]⟩) (.string ⟨#[]⟩) (.int .i64 0) (.string ⟨#[]⟩) (.int .i64 0) (.slice none 0 0))
  have KC := Lib.hid (fun (k : Nat) (m : Int) (hm0 : 1 ≤ m) (hm : m ≤ 1000000000) (hk : k < 1000000) (W : World) (h : Src W b a n c xs k) => l1Chance_any b a n c xs k m hm0 hm hk W h)
  have KD := l7Bent_any b a n c xs k (by omega) _ (h.below hbA)
  unfold PrBent at KD
  have HG := Lib.hid (grown_of_below hbA (some b))
  have hsz0 : (w.alloc (.cells #[.int .i64 0, .string ⟨#[]⟩, .string ⟨#[]⟩, .int .i64 0, .string ⟨#[]⟩, .int .i64 0, .slice none 0 0] 26)).heap.size = w.heap.size + 1 := by simp
  clear h hbA
  go_enter Tryz.func83, Tryz.ntmps83
  go_wp2_with fail
  refine KD.mono ?_
  clear KD
  rintro e V ⟨⟨yk, yf, yt, ys, yu, yp, l⟩, x, m, q, A, N, C, k1, rfl, hG, hm8, hPD, hk1, hs1, hg1⟩
  rw [hsz0] at hG
  dsimp only at hG
  have GM := Lib.hid hG
  have hlm : l.length = m := hG.len
  obtain ⟨⟨pk1, pk2⟩, pf, pt, ⟨ps1, ps2⟩, pu, ⟨pp1, pp2⟩, pfew, pmore⟩ := hPD
  dsimp only at pk1 pk2 pf pt ps1 ps2 pu pp1 pp2 pfew pmore
  have HD5 := Lib.hid pmore
  have DI := Lib.hid (D7.init 26 (.int .i64 yk) (.string yf) (.string yt) (.int .i64 ys) (.string yu) (.int .i64 yp) (.slice (some x) m q) hb0 (XR.out.grown hg1 (by intro e; injection e with e; omega)) hs1 (grown_trans_row HG.out hg1))
  have hxs : V.heap.size < w.heap.size + 1 ∨ V.heap.size ≤ V.heap.size := .inr (Nat.le_refl _)
  clear hG pmore hs1 hg1 XR HG pfew
  go_upto_region 2 with fail
  generalize V.alloc (.cells #[.int .i64 yk, .string yf, .string yt, .int .i64 ys, .string yu, .int .i64 yp, .slice (some x) m q] 26) = W1 at DI ⊢
  generalize hxp : V.heap.size = xp at DI ⊢
  have hxs : xp < w.heap.size + 1 ∨ V.heap.size ≤ xp := .inr (by omega)
  have lx := DI.out.box.lt
  have y1 := DI.out.box.c1
  by_cases hye : yf.toList = []
  · have hye2 : yf.toList.isEmpty = true := by rw [hye]; rfl
    go_wp2_with fail
    refine (KC.out k1 5 (by decide) (by decide) (by omega) _ DI.out.src).mono ?_
    rintro e W2 ⟨⟨t2, rfl⟩, hs, hg⟩
    have D2 := Lib.hid (DI.out.call hs hg)
    clear hs hg DI lx y1
    cases t2
    · have c1 := D2.out.box.c1
      have f1 := D2.out.box.fz 1 (by decide)
      have lx := D2.out.box.lt
      have D3 : Hid (D7 w V (W2.setCell ⟨xp, 1, none⟩ (.string ⟨#[114, 64, 115]⟩)) b a n c xs (k1 + 1) xp (.int .i64 yk) (.string ⟨#[114, 64, 115]⟩) (.string yt) (.int .i64 ys) (.string yu) (.int .i64 yp) (.slice (some x) m q)) := Lib.hid (D2.out.set 1 (.string ⟨#[114, 64, 115]⟩) (by decide) ⟨rfl, rfl, rfl, rfl, rfl, rfl, rfl⟩)
      go_upto_region 4 with fail
      generalize W2.setCell ⟨xp, 1, none⟩ (.string ⟨#[114, 64, 115]⟩) = W3 at *
      clear c1 f1 lx
      go_wp2_with fail
      refine (KC.out (k1 + 1) 12 (by decide) (by decide) (by omega) _ D3.out.src).mono ?_
      rintro e W4 ⟨⟨t4, rfl⟩, hs, hg⟩
      have D4 := Lib.hid (D3.out.call hs hg)
      clear hs hg
      cases t4
      · go_upto_region 8 with fail
        obtain ⟨-, d0, d1, d2, d3, d4, d5, d6, -⟩ := D4.out.box
        obtain ⟨-, e0, e1, e2, e3, e4, e5, e6, -⟩ := D4.out.res
        have g0 := D4.out.res.fz 0 (by decide)
        have g1 := D4.out.res.fz 1 (by decide)
        have g2 := D4.out.res.fz 2 (by decide)
        have g3 := D4.out.res.fz 3 (by decide)
        have g4 := D4.out.res.fz 4 (by decide)
        have g5 := D4.out.res.fz 5 (by decide)
        have g6 := D4.out.res.fz 6 (by decide)
        obtain ⟨Zx, Zs, Zg, Zo⟩ := D4.out.done
        have z0 := Zx.c0
        have z1 := Zx.c1
        have z2 := Zx.c2
        have z3 := Zx.c3
        have z4 := Zx.c4
        have z5 := Zx.c5
        have z6 := Zx.c6
        have GI := Lib.hid (D7.its GM.out Zo hb0 (by omega) hxs)
        have ZS := Lib.hid Zs
        have ZG := Lib.hid Zg
        clear Zx Zo Zs Zg
        go_wp2
        refine bodyPost_ret (v := .agg #[.int .i64 yk, .string ⟨#[114, 64, 115]⟩, .string yt, .int .i64 ys, .string yu, .int .i64 yp, .slice (some x) m q]) (by simp [results, Tryz.results83, go_sem, z0, z1, z2, z3, z4, z5, z6, e0, e1, e2, e3, e4, e5, e6]) rfl (by unfold PrBent; exact ⟨⟨yk, ⟨#[114, 64, 115]⟩, yt, ys, yu, yp, l⟩, x, m, q, A, N, C, ((k1 + 1) + 1), rfl, GI.out, hm8, ⟨⟨by show -1000 ≤ (yk : Int); omega, by show (yk : Int) ≤ 1000; omega⟩, by show (⟨#[114, 64, 115]⟩ : ByteArray).size ≤ 61; decide, by show yt.size ≤ 61; omega, ⟨by show -1000 ≤ (ys : Int); omega, by show (ys : Int) ≤ 1000; omega⟩, by show yu.size ≤ 61; omega, ⟨by show -1000 ≤ (yp : Int); omega, by show (yp : Int) ≤ 1000; omega⟩, by show l.length ≤ 60; omega, HD5.out⟩, by omega, ZS.out, ZG.out⟩)
      · have c1 := D4.out.box.c1
        have f1 := D4.out.box.fz 1 (by decide)
        have lx := D4.out.box.lt
        have D5 : Hid (D7 w V (W4.setCell ⟨xp, 1, none⟩ (.string ⟨#[97, 98, 99, 100, 101, 102, 103, 104, 105, 106, 107, 108, 109, 110, 111, 112, 113, 114, 115, 116, 117, 118, 119, 120, 121, 122, 97, 98, 99, 100, 101, 102, 103, 104, 105, 106, 107, 108, 109, 110, 111, 112, 113, 114, 115, 116, 117, 118, 119, 120, 121, 122, 97, 98, 99]⟩)) b a n c xs ((k1 + 1) + 1) xp (.int .i64 yk) (.string ⟨#[97, 98, 99, 100, 101, 102, 103, 104, 105, 106, 107, 108, 109, 110, 111, 112, 113, 114, 115, 116, 117, 118, 119, 120, 121, 122, 97, 98, 99, 100, 101, 102, 103, 104, 105, 106, 107, 108, 109, 110, 111, 112, 113, 114, 115, 116, 117, 118, 119, 120, 121, 122, 97, 98, 99]⟩) (.string yt) (.int .i64 ys) (.string yu) (.int .i64 yp) (.slice (some x) m q)) := Lib.hid (D4.out.set 1 (.string ⟨#[97, 98, 99, 100, 101, 102, 103, 104, 105, 106, 107, 108, 109, 110, 111, 112, 113, 114, 115, 116, 117, 118, 119, 120, 121, 122, 97, 98, 99, 100, 101, 102, 103, 104, 105, 106, 107, 108, 109, 110, 111, 112, 113, 114, 115, 116, 117, 118, 119, 120, 121, 122, 97, 98, 99]⟩) (by decide) ⟨rfl, rfl, rfl, rfl, rfl, rfl, rfl⟩)
        go_upto_region 6 with fail
        generalize W4.setCell ⟨xp, 1, none⟩ (.string ⟨#[97, 98, 99, 100, 101, 102, 103, 104, 105, 106, 107, 108, 109, 110, 111, 112, 113, 114, 115, 116, 117, 118, 119, 120, 121, 122, 97, 98, 99, 100, 101, 102, 103, 104, 105, 106, 107, 108, 109, 110, 111, 112, 113, 114, 115, 116, 117, 118, 119, 120, 121, 122, 97, 98, 99]⟩) = W5 at *
        clear c1 f1 lx
        go_wp2_with fail
        refine (KC.out ((k1 + 1) + 1) 2 (by decide) (by decide) (by omega) _ D5.out.src).mono ?_
        rintro e W6 ⟨⟨t6, rfl⟩, hs, hg⟩
        have D6 := Lib.hid (D5.out.call hs hg)
        clear hs hg
        cases t6
        · go_upto_region 8 with fail
          obtain ⟨-, d0, d1, d2, d3, d4, d5, d6, -⟩ := D6.out.box
          obtain ⟨-, e0, e1, e2, e3, e4, e5, e6, -⟩ := D6.out.res
          have g0 := D6.out.res.fz 0 (by decide)
          have g1 := D6.out.res.fz 1 (by decide)
          have g2 := D6.out.res.fz 2 (by decide)
          have g3 := D6.out.res.fz 3 (by decide)
          have g4 := D6.out.res.fz 4 (by decide)
          have g5 := D6.out.res.fz 5 (by decide)
          have g6 := D6.out.res.fz 6 (by decide)
          obtain ⟨Zx, Zs, Zg, Zo⟩ := D6.out.done
          have z0 := Zx.c0
          have z1 := Zx.c1
          have z2 := Zx.c2
          have z3 := Zx.c3
          have z4 := Zx.c4
          have z5 := Zx.c5
          have z6 := Zx.c6
          have GI := Lib.hid (D7.its GM.out Zo hb0 (by omega) hxs)
          have ZS := Lib.hid Zs
          have ZG := Lib.hid Zg
          clear Zx Zo Zs Zg
          go_wp2
          refine bodyPost_ret (v := .agg #[.int .i64 yk, .string ⟨#[97, 98, 99, 100, 101, 102, 103, 104, 105, 106, 107, 108, 109, 110, 111, 112, 113, 114, 115, 116, 117, 118, 119, 120, 121, 122, 97, 98, 99, 100, 101, 102, 103, 104, 105, 106, 107, 108, 109, 110, 111, 112, 113, 114, 115, 116, 117, 118, 119, 120, 121, 122, 97, 98, 99]⟩, .string yt, .int .i64 ys, .string yu, .int .i64 yp, .slice (some x) m q]) (by simp [results, Tryz.results83, go_sem, z0, z1, z2, z3, z4, z5, z6, e0, e1, e2, e3, e4, e5, e6]) rfl (by unfold PrBent; exact ⟨⟨yk, ⟨#[97, 98, 99, 100, 101, 102, 103, 104, 105, 106, 107, 108, 109, 110, 111, 112, 113, 114, 115, 116, 117, 118, 119, 120, 121, 122, 97, 98, 99, 100, 101, 102, 103, 104, 105, 106, 107, 108, 109, 110, 111, 112, 113, 114, 115, 116, 117, 118, 119, 120, 121, 122, 97, 98, 99]⟩, yt, ys, yu, yp, l⟩, x, m, q, A, N, C, ((k1 + 1) + 1 + 1), rfl, GI.out, hm8, ⟨⟨by show -1000 ≤ (yk : Int); omega, by show (yk : Int) ≤ 1000; omega⟩, by show (⟨#[97, 98, 99, 100, 101, 102, 103, 104, 105, 106, 107, 108, 109, 110, 111, 112, 113, 114, 115, 116, 117, 118, 119, 120, 121, 122, 97, 98, 99, 100, 101, 102, 103, 104, 105, 106, 107, 108, 109, 110, 111, 112, 113, 114, 115, 116, 117, 118, 119, 120, 121, 122, 97, 98, 99]⟩ : ByteArray).size ≤ 61; decide, by show yt.size ≤ 61; omega, ⟨by show -1000 ≤ (ys : Int); omega, by show (ys : Int) ≤ 1000; omega⟩, by show yu.size ≤ 61; omega, ⟨by show -1000 ≤ (yp : Int); omega, by show (yp : Int) ≤ 1000; omega⟩, by show l.length ≤ 60; omega, HD5.out⟩, by omega, ZS.out, ZG.out⟩)
        · have c1 := D6.out.box.c1
          have f1 := D6.out.box.fz 1 (by decide)
          have lx := D6.out.box.lt
          have D7' : Hid (D7 w V (W6.setCell ⟨xp, 1, none⟩ (.string (⟨#[97, 98, 99, 100, 101, 102, 103, 104, 105, 106, 107, 108, 109, 110, 111, 112, 113, 114, 115, 116, 117, 118, 119, 120, 121, 122, 97, 98, 99, 100, 101, 102, 103, 104, 105, 106, 107, 108, 109, 110, 111, 112, 113, 114, 115, 116, 117, 118, 119, 120, 121, 122, 97, 98, 99]⟩ ++ ⟨#[100]⟩))) b a n c xs ((k1 + 1) + 1 + 1) xp (.int .i64 yk) (.string (⟨#[97, 98, 99, 100, 101, 102, 103, 104, 105, 106, 107, 108, 109, 110, 111, 112, 113, 114, 115, 116, 117, 118, 119, 120, 121, 122, 97, 98, 99, 100, 101, 102, 103, 104, 105, 106, 107, 108, 109, 110, 111, 112, 113, 114, 115, 116, 117, 118, 119, 120, 121, 122, 97, 98, 99]⟩ ++ ⟨#[100]⟩)) (.string yt) (.int .i64 ys) (.string yu) (.int .i64 yp) (.slice (some x) m q)) := Lib.hid (D6.out.set 1 (.string (⟨#[97, 98, 99, 100, 101, 102, 103, 104, 105, 106, 107, 108, 109, 110, 111, 112, 113, 114, 115, 116, 117, 118, 119, 120, 121, 122, 97, 98, 99, 100, 101, 102, 103, 104, 105, 106, 107, 108, 109, 110, 111, 112, 113, 114, 115, 116, 117, 118, 119, 120, 121, 122, 97, 98, 99]⟩ ++ ⟨#[100]⟩)) (by decide) ⟨rfl, rfl, rfl, rfl, rfl, rfl, rfl⟩)
          go_upto_region 8 with fail
          generalize W6.setCell ⟨xp, 1, none⟩ (.string (⟨#[97, 98, 99, 100, 101, 102, 103, 104, 105, 106, 107, 108, 109, 110, 111, 112, 113, 114, 115, 116, 117, 118, 119, 120, 121, 122, 97, 98, 99, 100, 101, 102, 103, 104, 105, 106, 107, 108, 109, 110, 111, 112, 113, 114, 115, 116, 117, 118, 119, 120, 121, 122, 97, 98, 99]⟩ ++ ⟨#[100]⟩)) = W7 at *
          clear c1 f1 lx
          obtain ⟨-, d0, d1, d2, d3, d4, d5, d6, -⟩ := D7'.out.box
          obtain ⟨-, e0, e1, e2, e3, e4, e5, e6, -⟩ := D7'.out.res
          have g0 := D7'.out.res.fz 0 (by decide)
          have g1 := D7'.out.res.fz 1 (by decide)
          have g2 := D7'.out.res.fz 2 (by decide)
          have g3 := D7'.out.res.fz 3 (by decide)
          have g4 := D7'.out.res.fz 4 (by decide)
          have g5 := D7'.out.res.fz 5 (by decide)
          have g6 := D7'.out.res.fz 6 (by decide)
          obtain ⟨Zx, Zs, Zg, Zo⟩ := D7'.out.done
          have z0 := Zx.c0
          have z1 := Zx.c1
          have z2 := Zx.c2
          have z3 := Zx.c3
          have z4 := Zx.c4
          have z5 := Zx.c5
          have z6 := Zx.c6
          have GI := Lib.hid (D7.its GM.out Zo hb0 (by omega) hxs)
          have ZS := Lib.hid Zs
          have ZG := Lib.hid Zg
          clear Zx Zo Zs Zg
          go_wp2
          refine bodyPost_ret (v := .agg #[.int .i64 yk, .string (⟨#[97, 98, 99, 100, 101, 102, 103, 104, 105, 106, 107, 108, 109, 110, 111, 112, 113, 114, 115, 116, 117, 118, 119, 120, 121, 122, 97, 98, 99, 100, 101, 102, 103, 104, 105, 106, 107, 108, 109, 110, 111, 112, 113, 114, 115, 116, 117, 118, 119, 120, 121, 122, 97, 98, 99]⟩ ++ ⟨#[100]⟩), .string yt, .int .i64 ys, .string yu, .int .i64 yp, .slice (some x) m q]) (by simp [results, Tryz.results83, go_sem, z0, z1, z2, z3, z4, z5, z6, e0, e1, e2, e3, e4, e5, e6]) rfl (by unfold PrBent; exact ⟨⟨yk, (⟨#[97, 98, 99, 100, 101, 102, 103, 104, 105, 106, 107, 108, 109, 110, 111, 112, 113, 114, 115, 116, 117, 118, 119, 120, 121, 122, 97, 98, 99, 100, 101, 102, 103, 104, 105, 106, 107, 108, 109, 110, 111, 112, 113, 114, 115, 116, 117, 118, 119, 120, 121, 122, 97, 98, 99]⟩ ++ ⟨#[100]⟩), yt, ys, yu, yp, l⟩, x, m, q, A, N, C, ((k1 + 1) + 1 + 1), rfl, GI.out, hm8, ⟨⟨by show -1000 ≤ (yk : Int); omega, by show (yk : Int) ≤ 1000; omega⟩, by show ((⟨#[97, 98, 99, 100, 101, 102, 103, 104, 105, 106, 107, 108, 109, 110, 111, 112, 113, 114, 115, 116, 117, 118, 119, 120, 121, 122, 97, 98, 99, 100, 101, 102, 103, 104, 105, 106, 107, 108, 109, 110, 111, 112, 113, 114, 115, 116, 117, 118, 119, 120, 121, 122, 97, 98, 99]⟩ ++ ⟨#[100]⟩) : ByteArray).size ≤ 61; rw [ByteArray.size_append]; decide, by show yt.size ≤ 61; omega, ⟨by show -1000 ≤ (ys : Int); omega, by show (ys : Int) ≤ 1000; omega⟩, by show yu.size ≤ 61; omega, ⟨by show -1000 ≤ (yp : Int); omega, by show (yp : Int) ≤ 1000; omega⟩, by show l.length ≤ 60; omega, HD5.out⟩, by omega, ZS.out, ZG.out⟩)
    · go_upto_region 4 with fail
      go_wp2_with fail
      refine (KC.out (k1 + 1) 12 (by decide) (by decide) (by omega) _ D2.out.src).mono ?_
      rintro e W4 ⟨⟨t4, rfl⟩, hs, hg⟩
      have D4 := Lib.hid (D2.out.call hs hg)
      clear hs hg
      cases t4
      · go_upto_region 8 with fail
        obtain ⟨-, d0, d1, d2, d3, d4, d5, d6, -⟩ := D4.out.box
        obtain ⟨-, e0, e1, e2, e3, e4, e5, e6, -⟩ := D4.out.res
        have g0 := D4.out.res.fz 0 (by decide)
        have g1 := D4.out.res.fz 1 (by decide)
        have g2 := D4.out.res.fz 2 (by decide)
        have g3 := D4.out.res.fz 3 (by decide)
        have g4 := D4.out.res.fz 4 (by decide)
        have g5 := D4.out.res.fz 5 (by decide)
        have g6 := D4.out.res.fz 6 (by decide)
        obtain ⟨Zx, Zs, Zg, Zo⟩ := D4.out.done
        have z0 := Zx.c0
        have z1 := Zx.c1
        have z2 := Zx.c2
        have z3 := Zx.c3
        have z4 := Zx.c4
        have z5 := Zx.c5
        have z6 := Zx.c6
        have GI := Lib.hid (D7.its GM.out Zo hb0 (by omega) hxs)
        have ZS := Lib.hid Zs
        have ZG := Lib.hid Zg
        clear Zx Zo Zs Zg
        go_wp2
        refine bodyPost_ret (v := .agg #[.int .i64 yk, .string yf, .string yt, .int .i64 ys, .string yu, .int .i64 yp, .slice (some x) m q]) (by simp [results, Tryz.results83, go_sem, z0, z1, z2, z3, z4, z5, z6, e0, e1, e2, e3, e4, e5, e6]) rfl (by unfold PrBent; exact ⟨⟨yk, yf, yt, ys, yu, yp, l⟩, x, m, q, A, N, C, ((k1 + 1) + 1), rfl, GI.out, hm8, ⟨⟨by show -1000 ≤ (yk : Int); omega, by show (yk : Int) ≤ 1000; omega⟩, by show yf.size ≤ 61; omega, by show yt.size ≤ 61; omega, ⟨by show -1000 ≤ (ys : Int); omega, by show (ys : Int) ≤ 1000; omega⟩, by show yu.size ≤ 61; omega, ⟨by show -1000 ≤ (yp : Int); omega, by show (yp : Int) ≤ 1000; omega⟩, by show l.length ≤ 60; omega, HD5.out⟩, by omega, ZS.out, ZG.out⟩)
      · have c1 := D4.out.box.c1
        have f1 := D4.out.box.fz 1 (by decide)
        have lx := D4.out.box.lt
        have D5 : Hid (D7 w V (W4.setCell ⟨xp, 1, none⟩ (.string ⟨#[97, 98, 99, 100, 101, 102, 103, 104, 105, 106, 107, 108, 109, 110, 111, 112, 113, 114, 115, 116, 117, 118, 119, 120, 121, 122, 97, 98, 99, 100, 101, 102, 103, 104, 105, 106, 107, 108, 109, 110, 111, 112, 113, 114, 115, 116, 117, 118, 119, 120, 121, 122, 97, 98, 99]⟩)) b a n c xs ((k1 + 1) + 1) xp (.int .i64 yk) (.string ⟨#[97, 98, 99, 100, 101, 102, 103, 104, 105, 106, 107, 108, 109, 110, 111, 112, 113, 114, 115, 116, 117, 118, 119, 120, 121, 122, 97, 98, 99, 100, 101, 102, 103, 104, 105, 106, 107, 108, 109, 110, 111, 112, 113, 114, 115, 116, 117, 118, 119, 120, 121, 122, 97, 98, 99]⟩) (.string yt) (.int .i64 ys) (.string yu) (.int .i64 yp) (.slice (some x) m q)) := Lib.hid (D4.out.set 1 (.string ⟨#[97, 98, 99, 100, 101, 102, 103, 104, 105, 106, 107, 108, 109, 110, 111, 112, 113, 114, 115, 116, 117, 118, 119, 120, 121, 122, 97, 98, 99, 100, 101, 102, 103, 104, 105, 106, 107, 108, 109, 110, 111, 112, 113, 114, 115, 116, 117, 118, 119, 120, 121, 122, 97, 98, 99]⟩) (by decide) ⟨rfl, rfl, rfl, rfl, rfl, rfl, rfl⟩)
        go_upto_region 6 with fail
        generalize W4.setCell ⟨xp, 1, none⟩ (.string ⟨#[97, 98, 99, 100, 101, 102, 103, 104, 105, 106, 107, 108, 109, 110, 111, 112, 113, 114, 115, 116, 117, 118, 119, 120, 121, 122, 97, 98, 99, 100, 101, 102, 103, 104, 105, 106, 107, 108, 109, 110, 111, 112, 113, 114, 115, 116, 117, 118, 119, 120, 121, 122, 97, 98, 99]⟩) = W5 at *
        clear c1 f1 lx
        go_wp2_with fail
        refine (KC.out ((k1 + 1) + 1) 2 (by decide) (by decide) (by omega) _ D5.out.src).mono ?_
        rintro e W6 ⟨⟨t6, rfl⟩, hs, hg⟩
        have D6 := Lib.hid (D5.out.call hs hg)
        clear hs hg
        cases t6
        · go_upto_region 8 with fail
          obtain ⟨-, d0, d1, d2, d3, d4, d5, d6, -⟩ := D6.out.box
          obtain ⟨-, e0, e1, e2, e3, e4, e5, e6, -⟩ := D6.out.res
          have g0 := D6.out.res.fz 0 (by decide)
          have g1 := D6.out.res.fz 1 (by decide)
          have g2 := D6.out.res.fz 2 (by decide)
          have g3 := D6.out.res.fz 3 (by decide)
          have g4 := D6.out.res.fz 4 (by decide)
          have g5 := D6.out.res.fz 5 (by decide)
          have g6 := D6.out.res.fz 6 (by decide)
          obtain ⟨Zx, Zs, Zg, Zo⟩ := D6.out.done
          have z0 := Zx.c0
          have z1 := Zx.c1
          have z2 := Zx.c2
          have z3 := Zx.c3
          have z4 := Zx.c4
          have z5 := Zx.c5
          have z6 := Zx.c6
          have GI := Lib.hid (D7.its GM.out Zo hb0 (by omega) hxs)
          have ZS := Lib.hid Zs
          have ZG := Lib.hid Zg
          clear Zx Zo Zs Zg
          go_wp2
          refine bodyPost_ret (v := .agg #[.int .i64 yk, .string ⟨#[97, 98, 99, 100, 101, 102, 103, 104, 105, 106, 107, 108, 109, 110, 111, 112, 113, 114, 115, 116, 117, 118, 119, 120, 121, 122, 97, 98, 99, 100, 101, 102, 103, 104, 105, 106, 107, 108, 109, 110, 111, 112, 113, 114, 115, 116, 117, 118, 119, 120, 121, 122, 97, 98, 99]⟩, .string yt, .int .i64 ys, .string yu, .int .i64 yp, .slice (some x) m q]) (by simp [results, Tryz.results83, go_sem, z0, z1, z2, z3, z4, z5, z6, e0, e1, e2, e3, e4, e5, e6]) rfl (by unfold PrBent; exact ⟨⟨yk, ⟨#[97, 98, 99, 100, 101, 102, 103, 104, 105, 106, 107, 108, 109, 110, 111, 112, 113, 114, 115, 116, 117, 118, 119, 120, 121, 122, 97, 98, 99, 100, 101, 102, 103, 104, 105, 106, 107, 108, 109, 110, 111, 112, 113, 114, 115, 116, 117, 118, 119, 120, 121, 122, 97, 98, 99]⟩, yt, ys, yu, yp, l⟩, x, m, q, A, N, C, ((k1 + 1) + 1 + 1), rfl, GI.out, hm8, ⟨⟨by show -1000 ≤ (yk : Int); omega, by show (yk : Int) ≤ 1000; omega⟩, by show (⟨#[97, 98, 99, 100, 101, 102, 103, 104, 105, 106, 107, 108, 109, 110, 111, 112, 113, 114, 115, 116, 117, 118, 119, 120, 121, 122, 97, 98, 99, 100, 101, 102, 103, 104, 105, 106, 107, 108, 109, 110, 111, 112, 113, 114, 115, 116, 117, 118, 119, 120, 121, 122, 97, 98, 99]⟩ : ByteArray).size ≤ 61; decide, by show yt.size ≤ 61; omega, ⟨by show -1000 ≤ (ys : Int); omega, by show (ys : Int) ≤ 1000; omega⟩, by show yu.size ≤ 61; omega, ⟨by show -1000 ≤ (yp : Int); omega, by show (yp : Int) ≤ 1000; omega⟩, by show l.length ≤ 60; omega, HD5.out⟩, by omega, ZS.out, ZG.out⟩)
        · have c1 := D6.out.box.c1
          have f1 := D6.out.box.fz 1 (by decide)
          have lx := D6.out.box.lt
          have D7' : Hid (D7 w V (W6.setCell ⟨xp, 1, none⟩ (.string (⟨#[97, 98, 99, 100, 101, 102, 103, 104, 105, 106, 107, 108, 109, 110, 111, 112, 113, 114, 115, 116, 117, 118, 119, 120, 121, 122, 97, 98, 99, 100, 101, 102, 103, 104, 105, 106, 107, 108, 109, 110, 111, 112, 113, 114, 115, 116, 117, 118, 119, 120, 121, 122, 97, 98, 99]⟩ ++ ⟨#[100]⟩))) b a n c xs ((k1 + 1) + 1 + 1) xp (.int .i64 yk) (.string (⟨#[97, 98, 99, 100, 101, 102, 103, 104, 105, 106, 107, 108, 109, 110, 111, 112, 113, 114, 115, 116, 117, 118, 119, 120, 121, 122, 97, 98, 99, 100, 101, 102, 103, 104, 105, 106, 107, 108, 109, 110, 111, 112, 113, 114, 115, 116, 117, 118, 119, 120, 121, 122, 97, 98, 99]⟩ ++ ⟨#[100]⟩)) (.string yt) (.int .i64 ys) (.string yu) (.int .i64 yp) (.slice (some x) m q)) := Lib.hid (D6.out.set 1 (.string (⟨#[97, 98, 99, 100, 101, 102, 103, 104, 105, 106, 107, 108, 109, 110, 111, 112, 113, 114, 115, 116, 117, 118, 119, 120, 121, 122, 97, 98, 99, 100, 101, 102, 103, 104, 105, 106, 107, 108, 109, 110, 111, 112, 113, 114, 115, 116, 117, 118, 119, 120, 121, 122, 97, 98, 99]⟩ ++ ⟨#[100]⟩)) (by decide) ⟨rfl, rfl, rfl, rfl, rfl, rfl, rfl⟩)
          go_upto_region 8 with fail
          generalize W6.setCell ⟨xp, 1, none⟩ (.string (⟨#[97, 98, 99, 100, 101, 102, 103, 104, 105, 106, 107, 108, 109, 110, 111, 112, 113, 114, 115, 116, 117, 118, 119, 120, 121, 122, 97, 98, 99, 100, 101, 102, 103, 104, 105, 106, 107, 108, 109, 110, 111, 112, 113, 114, 115, 116, 117, 118, 119, 120, 121, 122, 97, 98, 99]⟩ ++ ⟨#[100]⟩)) = W7 at *
          clear c1 f1 lx
          obtain ⟨-, d0, d1, d2, d3, d4, d5, d6, -⟩ := D7'.out.box
          obtain ⟨-, e0, e1, e2, e3, e4, e5, e6, -⟩ := D7'.out.res
          have g0 := D7'.out.res.fz 0 (by decide)
          have g1 := D7'.out.res.fz 1 (by decide)
          have g2 := D7'.out.res.fz 2 (by decide)
          have g3 := D7'.out.res.fz 3 (by decide)
          have g4 := D7'.out.res.fz 4 (by decide)
          have g5 := D7'.out.res.fz 5 (by decide)
          have g6 := D7'.out.res.fz 6 (by decide)
          obtain ⟨Zx, Zs, Zg, Zo⟩ := D7'.out.done
          have z0 := Zx.c0
          have z1 := Zx.c1
          have z2 := Zx.c2
          have z3 := Zx.c3
          have z4 := Zx.c4
          have z5 := Zx.c5
          have z6 := Zx.c6
          have GI := Lib.hid (D7.its GM.out Zo hb0 (by omega) hxs)
          have ZS := Lib.hid Zs
          have ZG := Lib.hid Zg
          clear Zx Zo Zs Zg
          go_wp2
          refine bodyPost_ret (v := .agg #[.int .i64 yk, .string (⟨#[97, 98, 99, 100, 101, 102, 103, 104, 105, 106, 107, 108, 109, 110, 111, 112, 113, 114, 115, 116, 117, 118, 119, 120, 121, 122, 97, 98, 99, 100, 101, 102, 103, 104, 105, 106, 107, 108, 109, 110, 111, 112, 113, 114, 115, 116, 117, 118, 119, 120, 121, 122, 97, 98, 99]⟩ ++ ⟨#[100]⟩), .string yt, .int .i64 ys, .string yu, .int .i64 yp, .slice (some x) m q]) (by simp [results, Tryz.results83, go_sem, z0, z1, z2, z3, z4, z5, z6, e0, e1, e2, e3, e4, e5, e6]) rfl (by unfold PrBent; exact ⟨⟨yk, (⟨#[97, 98, 99, 100, 101, 102, 103, 104, 105, 106, 107, 108, 109, 110, 111, 112, 113, 114, 115, 116, 117, 118, 119, 120, 121, 122, 97, 98, 99, 100, 101, 102, 103, 104, 105, 106, 107, 108, 109, 110, 111, 112, 113, 114, 115, 116, 117, 118, 119, 120, 121, 122, 97, 98, 99]⟩ ++ ⟨#[100]⟩), yt, ys, yu, yp, l⟩, x, m, q, A, N, C, ((k1 + 1) + 1 + 1), rfl, GI.out, hm8, ⟨⟨by show -1000 ≤ (yk : Int); omega, by show (yk : Int) ≤ 1000; omega⟩, by show ((⟨#[97, 98, 99, 100, 101, 102, 103, 104, 105, 106, 107, 108, 109, 110, 111, 112, 113, 114, 115, 116, 117, 118, 119, 120, 121, 122, 97, 98, 99, 100, 101, 102, 103, 104, 105, 106, 107, 108, 109, 110, 111, 112, 113, 114, 115, 116, 117, 118, 119, 120, 121, 122, 97, 98, 99]⟩ ++ ⟨#[100]⟩) : ByteArray).size ≤ 61; rw [ByteArray.size_append]; decide, by show yt.size ≤ 61; omega, ⟨by show -1000 ≤ (ys : Int); omega, by show (ys : Int) ≤ 1000; omega⟩, by show yu.size ≤ 61; omega, ⟨by show -1000 ≤ (yp : Int); omega, by show (yp : Int) ≤ 1000; omega⟩, by show l.length ≤ 60; omega, HD5.out⟩, by omega, ZS.out, ZG.out⟩)
  · have hye2 : yf.toList.isEmpty = false := by rw [Bool.eq_false_iff]; intro hq; exact hye (List.isEmpty_iff.1 hq)
    have hye3 : decide (yf.toList = []) = false := by simp [hye]
    go_upto_region 4 with fail
    go_wp2_with fail
    refine (KC.out k1 12 (by decide) (by decide) (by omega) _ DI.out.src).mono ?_
    rintro e W4 ⟨⟨t4, rfl⟩, hs, hg⟩
    have D4 := Lib.hid (DI.out.call hs hg)
    clear hs hg
    cases t4
    · go_upto_region 8 with fail
      obtain ⟨-, d0, d1, d2, d3, d4, d5, d6, -⟩ := D4.out.box
      obtain ⟨-, e0, e1, e2, e3, e4, e5, e6, -⟩ := D4.out.res
      have g0 := D4.out.res.fz 0 (by decide)
      have g1 := D4.out.res.fz 1 (by decide)
      have g2 := D4.out.res.fz 2 (by decide)
      have g3 := D4.out.res.fz 3 (by decide)
      have g4 := D4.out.res.fz 4 (by decide)
      have g5 := D4.out.res.fz 5 (by decide)
      have g6 := D4.out.res.fz 6 (by decide)
      obtain ⟨Zx, Zs, Zg, Zo⟩ := D4.out.done
      have z0 := Zx.c0
      have z1 := Zx.c1
      have z2 := Zx.c2
      have z3 := Zx.c3
      have z4 := Zx.c4
      have z5 := Zx.c5
      have z6 := Zx.c6
      have GI := Lib.hid (D7.its GM.out Zo hb0 (by omega) hxs)
      have ZS := Lib.hid Zs
      have ZG := Lib.hid Zg
      clear Zx Zo Zs Zg
      go_wp2
      refine bodyPost_ret (v := .agg #[.int .i64 yk, .string yf, .string yt, .int .i64 ys, .string yu, .int .i64 yp, .slice (some x) m q]) (by simp [results, Tryz.results83, go_sem, z0, z1, z2, z3, z4, z5, z6, e0, e1, e2, e3, e4, e5, e6]) rfl (by unfold PrBent; exact ⟨⟨yk, yf, yt, ys, yu, yp, l⟩, x, m, q, A, N, C, (k1 + 1), rfl, GI.out, hm8, ⟨⟨by show -1000 ≤ (yk : Int); omega, by show (yk : Int) ≤ 1000; omega⟩, by show yf.size ≤ 61; omega, by show yt.size ≤ 61; omega, ⟨by show -1000 ≤ (ys : Int); omega, by show (ys : Int) ≤ 1000; omega⟩, by show yu.size ≤ 61; omega, ⟨by show -1000 ≤ (yp : Int); omega, by show (yp : Int) ≤ 1000; omega⟩, by show l.length ≤ 60; omega, HD5.out⟩, by omega, ZS.out, ZG.out⟩)
    · have c1 := D4.out.box.c1
      have f1 := D4.out.box.fz 1 (by decide)
      have lx := D4.out.box.lt
      have D5 : Hid (D7 w V (W4.setCell ⟨xp, 1, none⟩ (.string ⟨#[97, 98, 99, 100, 101, 102, 103, 104, 105, 106, 107, 108, 109, 110, 111, 112, 113, 114, 115, 116, 117, 118, 119, 120, 121, 122, 97, 98, 99, 100, 101, 102, 103, 104, 105, 106, 107, 108, 109, 110, 111, 112, 113, 114, 115, 116, 117, 118, 119, 120, 121, 122, 97, 98, 99]⟩)) b a n c xs (k1 + 1) xp (.int .i64 yk) (.string ⟨#[97, 98, 99, 100, 101, 102, 103, 104, 105, 106, 107, 108, 109, 110, 111, 112, 113, 114, 115, 116, 117, 118, 119, 120, 121, 122, 97, 98, 99, 100, 101, 102, 103, 104, 105, 106, 107, 108, 109, 110, 111, 112, 113, 114, 115, 116, 117, 118, 119, 120, 121, 122, 97, 98, 99]⟩) (.string yt) (.int .i64 ys) (.string yu) (.int .i64 yp) (.slice (some x) m q)) := Lib.hid (D4.out.set 1 (.string ⟨#[97, 98, 99, 100, 101, 102, 103, 104, 105, 106, 107, 108, 109, 110, 111, 112, 113, 114, 115, 116, 117, 118, 119, 120, 121, 122, 97, 98, 99, 100, 101, 102, 103, 104, 105, 106, 107, 108, 109, 110, 111, 112, 113, 114, 115, 116, 117, 118, 119, 120, 121, 122, 97, 98, 99]⟩) (by decide) ⟨rfl, rfl, rfl, rfl, rfl, rfl, rfl⟩)
      go_upto_region 6 with fail
      generalize W4.setCell ⟨xp, 1, none⟩ (.string ⟨#[97, 98, 99, 100, 101, 102, 103, 104, 105, 106, 107, 108, 109, 110, 111, 112, 113, 114, 115, 116, 117, 118, 119, 120, 121, 122, 97, 98, 99, 100, 101, 102, 103, 104, 105, 106, 107, 108, 109, 110, 111, 112, 113, 114, 115, 116, 117, 118, 119, 120, 121, 122, 97, 98, 99]⟩) = W5 at *
      clear c1 f1 lx
      go_wp2_with fail
      refine (KC.out (k1 + 1) 2 (by decide) (by decide) (by omega) _ D5.out.src).mono ?_
      rintro e W6 ⟨⟨t6, rfl⟩, hs, hg⟩
      have D6 := Lib.hid (D5.out.call hs hg)
      clear hs hg
      cases t6
      · go_upto_region 8 with fail
        obtain ⟨-, d0, d1, d2, d3, d4, d5, d6, -⟩ := D6.out.box
        obtain ⟨-, e0, e1, e2, e3, e4, e5, e6, -⟩ := D6.out.res
        have g0 := D6.out.res.fz 0 (by decide)
        have g1 := D6.out.res.fz 1 (by decide)
        have g2 := D6.out.res.fz 2 (by decide)
        have g3 := D6.out.res.fz 3 (by decide)
        have g4 := D6.out.res.fz 4 (by decide)
        have g5 := D6.out.res.fz 5 (by decide)
        have g6 := D6.out.res.fz 6 (by decide)
        obtain ⟨Zx, Zs, Zg, Zo⟩ := D6.out.done
        have z0 := Zx.c0
        have z1 := Zx.c1
        have z2 := Zx.c2
        have z3 := Zx.c3
        have z4 := Zx.c4
        have z5 := Zx.c5
        have z6 := Zx.c6
        have GI := Lib.hid (D7.its GM.out Zo hb0 (by omega) hxs)
        have ZS := Lib.hid Zs
        have ZG := Lib.hid Zg
        clear Zx Zo Zs Zg
        go_wp2
        refine bodyPost_ret (v := .agg #[.int .i64 yk, .string ⟨#[97, 98, 99, 100, 101, 102, 103, 104, 105, 106, 107, 108, 109, 110, 111, 112, 113, 114, 115, 116, 117, 118, 119, 120, 121, 122, 97, 98, 99, 100, 101, 102, 103, 104, 105, 106, 107, 108, 109, 110, 111, 112, 113, 114, 115, 116, 117, 118, 119, 120, 121, 122, 97, 98, 99]⟩, .string yt, .int .i64 ys, .string yu, .int .i64 yp, .slice (some x) m q]) (by simp [results, Tryz.results83, go_sem, z0, z1, z2, z3, z4, z5, z6, e0, e1, e2, e3, e4, e5, e6]) rfl (by unfold PrBent; exact ⟨⟨yk, ⟨#[97, 98, 99, 100, 101, 102, 103, 104, 105, 106, 107, 108, 109, 110, 111, 112, 113, 114, 115, 116, 117, 118, 119, 120, 121, 122, 97, 98, 99, 100, 101, 102, 103, 104, 105, 106, 107, 108, 109, 110, 111, 112, 113, 114, 115, 116, 117, 118, 119, 120, 121, 122, 97, 98, 99]⟩, yt, ys, yu, yp, l⟩, x, m, q, A, N, C, (k1 + 1 + 1), rfl, GI.out, hm8, ⟨⟨by show -1000 ≤ (yk : Int); omega, by show (yk : Int) ≤ 1000; omega⟩, by show (⟨#[97, 98, 99, 100, 101, 102, 103, 104, 105, 106, 107, 108, 109, 110, 111, 112, 113, 114, 115, 116, 117, 118, 119, 120, 121, 122, 97, 98, 99, 100, 101, 102, 103, 104, 105, 106, 107, 108, 109, 110, 111, 112, 113, 114, 115, 116, 117, 118, 119, 120, 121, 122, 97, 98, 99]⟩ : ByteArray).size ≤ 61; decide, by show yt.size ≤ 61; omega, ⟨by show -1000 ≤ (ys : Int); omega, by show (ys : Int) ≤ 1000; omega⟩, by show yu.size ≤ 61; omega, ⟨by show -1000 ≤ (yp : Int); omega, by show (yp : Int) ≤ 1000; omega⟩, by show l.length ≤ 60; omega, HD5.out⟩, by omega, ZS.out, ZG.out⟩)
      · have c1 := D6.out.box.c1
        have f1 := D6.out.box.fz 1 (by decide)
        have lx := D6.out.box.lt
        have D7' : Hid (D7 w V (W6.setCell ⟨xp, 1, none⟩ (.string (⟨#[97, 98, 99, 100, 101, 102, 103, 104, 105, 106, 107, 108, 109, 110, 111, 112, 113, 114, 115, 116, 117, 118, 119, 120, 121, 122, 97, 98, 99, 100, 101, 102, 103, 104, 105, 106, 107, 108, 109, 110, 111, 112, 113, 114, 115, 116, 117, 118, 119, 120, 121, 122, 97, 98, 99]⟩ ++ ⟨#[100]⟩))) b a n c xs (k1 + 1 + 1) xp (.int .i64 yk) (.string (⟨#[97, 98, 99, 100, 101, 102, 103, 104, 105, 106, 107, 108, 109, 110, 111, 112, 113, 114, 115, 116, 117, 118, 119, 120, 121, 122, 97, 98, 99, 100, 101, 102, 103, 104, 105, 106, 107, 108, 109, 110, 111, 112, 113, 114, 115, 116, 117, 118, 119, 120, 121, 122, 97, 98, 99]⟩ ++ ⟨#[100]⟩)) (.string yt) (.int .i64 ys) (.string yu) (.int .i64 yp) (.slice (some x) m q)) := Lib.hid (D6.out.set 1 (.string (⟨#[97, 98, 99, 100, 101, 102, 103, 104, 105, 106, 107, 108, 109, 110, 111, 112, 113, 114, 115, 116, 117, 118, 119, 120, 121, 122, 97, 98, 99, 100, 101, 102, 103, 104, 105, 106, 107, 108, 109, 110, 111, 112, 113, 114, 115, 116, 117, 118, 119, 120, 121, 122, 97, 98, 99]⟩ ++ ⟨#[100]⟩)) (by decide) ⟨rfl, rfl, rfl, rfl, rfl, rfl, rfl⟩)
        go_upto_region 8 with fail
        generalize W6.setCell ⟨xp, 1, none⟩ (.string (⟨#[97, 98, 99, 100, 101, 102, 103, 104, 105, 106, 107, 108, 109, 110, 111, 112, 113, 114, 115, 116, 117, 118, 119, 120, 121, 122, 97, 98, 99, 100, 101, 102, 103, 104, 105, 106, 107, 108, 109, 110, 111, 112, 113, 114, 115, 116, 117, 118, 119, 120, 121, 122, 97, 98, 99]⟩ ++ ⟨#[100]⟩)) = W7 at *
        clear c1 f1 lx
        obtain ⟨-, d0, d1, d2, d3, d4, d5, d6, -⟩ := D7'.out.box
        obtain ⟨-, e0, e1, e2, e3, e4, e5, e6, -⟩ := D7'.out.res
        have g0 := D7'.out.res.fz 0 (by decide)
        have g1 := D7'.out.res.fz 1 (by decide)
        have g2 := D7'.out.res.fz 2 (by decide)
        have g3 := D7'.out.res.fz 3 (by decide)
        have g4 := D7'.out.res.fz 4 (by decide)
        have g5 := D7'.out.res.fz 5 (by decide)
        have g6 := D7'.out.res.fz 6 (by decide)
        obtain ⟨Zx, Zs, Zg, Zo⟩ := D7'.out.done
        have z0 := Zx.c0
        have z1 := Zx.c1
        have z2 := Zx.c2
        have z3 := Zx.c3
        have z4 := Zx.c4
        have z5 := Zx.c5
        have z6 := Zx.c6
        have GI := Lib.hid (D7.its GM.out Zo hb0 (by omega) hxs)
        have ZS := Lib.hid Zs
        have ZG := Lib.hid Zg
        clear Zx Zo Zs Zg
        go_wp2
        refine bodyPost_ret (v := .agg #[.int .i64 yk, .string (⟨#[97, 98, 99, 100, 101, 102, 103, 104, 105, 106, 107, 108, 109, 110, 111, 112, 113, 114, 115, 116, 117, 118, 119, 120, 121, 122, 97, 98, 99, 100, 101, 102, 103, 104, 105, 106, 107, 108, 109, 110, 111, 112, 113, 114, 115, 116, 117, 118, 119, 120, 121, 122, 97, 98, 99]⟩ ++ ⟨#[100]⟩), .string yt, .int .i64 ys, .string yu, .int .i64 yp, .slice (some x) m q]) (by simp [results, Tryz.results83, go_sem, z0, z1, z2, z3, z4, z5, z6, e0, e1, e2, e3, e4, e5, e6]) rfl (by unfold PrBent; exact ⟨⟨yk, (⟨#[97, 98, 99, 100, 101, 102, 103, 104, 105, 106, 107, 108, 109, 110, 111, 112, 113, 114, 115, 116, 117, 118, 119, 120, 121, 122, 97, 98, 99, 100, 101, 102, 103, 104, 105, 106, 107, 108, 109, 110, 111, 112, 113, 114, 115, 116, 117, 118, 119, 120, 121, 122, 97, 98, 99]⟩ ++ ⟨#[100]⟩), yt, ys, yu, yp, l⟩, x, m, q, A, N, C, (k1 + 1 + 1), rfl, GI.out, hm8, ⟨⟨by show -1000 ≤ (yk : Int); omega, by show (yk : Int) ≤ 1000; omega⟩, by show ((⟨#[97, 98, 99, 100, 101, 102, 103, 104, 105, 106, 107, 108, 109, 110, 111, 112, 113, 114, 115, 116, 117, 118, 119, 120, 121, 122, 97, 98, 99, 100, 101, 102, 103, 104, 105, 106, 107, 108, 109, 110, 111, 112, 113, 114, 115, 116, 117, 118, 119, 120, 121, 122, 97, 98, 99]⟩ ++ ⟨#[100]⟩) : ByteArray).size ≤ 61; rw [ByteArray.size_append]; decide, by show yt.size ≤ 61; omega, ⟨by show -1000 ≤ (ys : Int); omega, by show (ys : Int) ≤ 1000; omega⟩, by show yu.size ≤ 61; omega, ⟨by show -1000 ≤ (yp : Int); omega, by show (yp : Int) ≤ 1000; omega⟩, by show l.length ≤ 60; omega, HD5.out⟩, by omega, ZS.out, ZG.out⟩)
def TopPr (w : World) (en : Ending) (w' : World) : Prop :=
  ∃ (y : Pr) (x : Addr) (m q : Nat), en = .returned (.agg #[.int .i64 y.kind, .string y.sender, .string y.goal, .int .i64 y.shown, .string y.status, .int .i64 y.prio, .slice (some x) m q]) ∧ OwnIts w' w.heap.size w'.heap.size (some x) m q y.more ∧ PrD y ∧ Below w.heap.size w w'
theorem PrD.own {W : World} {B : Nat} {a : Option Addr} {n c : Nat} {y : Pr} {A : Nat → Option Addr} {N C : Nat → Nat} (hy : PrD y) (h : GrowIts W B (.slice a n c) n y.more A N C) : OwnIts W B W.heap.size a n c y.more := h.own (by have := h.len; have := hy.few; omega) (drawn_sizes hy.more n)
theorem PrD.small {y : Pr} (hy : PrD y) : SmallPr y := ⟨⟨by have := hy.sender; omega, by have := hy.goal; omega, by have := hy.status; omega⟩, drawn_small hy.more (by have := hy.few; omega)⟩
theorem only_fill7 (W : World) (x : Nat) (u0 u1 u2 u3 u4 u5 u6 : Value) : Only (fun i => i = x) W (((((((W.setCell ⟨x, 0, none⟩ u0).setCell ⟨x, 1, none⟩ u1).setCell ⟨x, 2, none⟩ u2).setCell ⟨x, 3, none⟩ u3).setCell ⟨x, 4, none⟩ u4).setCell ⟨x, 5, none⟩ u5).setCell ⟨x, 6, none⟩ u6) :=
  have st : ∀ (W' : World) (i : Nat) (v : Value), Only (fun i => i = x) W W' → Only (fun i => i = x) W (W'.setCell ⟨x, i, none⟩ v) := fun W' i v h => h.trans (Only.set W' ⟨x, i, none⟩ v rfl)
  st _ 6 _ (st _ 5 _ (st _ 4 _ (st _ 3 _ (st _ 2 _ (st _ 1 _ (st _ 0 _ (Only.refl W)))))))
theorem below_fill7 {w W : World} (h : Below w.heap.size w W) (x : Nat) (hx : w.heap.size ≤ x) (u0 u1 u2 u3 u4 u5 u6 : Value) : Below w.heap.size w (((((((W.setCell ⟨x, 0, none⟩ u0).setCell ⟨x, 1, none⟩ u1).setCell ⟨x, 2, none⟩ u2).setCell ⟨x, 3, none⟩ u3).setCell ⟨x, 4, none⟩ u4).setCell ⟨x, 5, none⟩ u5).setCell ⟨x, 6, none⟩ u6) := ((((((h.setCell hx _).setCell hx _).setCell hx _).setCell hx _).setCell hx _).setCell hx _).setCell hx _
set_option maxRecDepth 100000 in
set_option maxHeartbeats 1600000 in
theorem drawPidfOf_any (a : Option Addr) (n c : Nat) (xs : List Int) (w : World) (h : CodeAt w a n c xs) :
    Calls Tryz.prog 30 #[.slice a n c] w (TopPr w) := by
  have hbA := below1 w (.cells #[.int .i64 0, .string ⟨#[]⟩, .string ⟨#[]⟩, .int .i64 0, .string ⟨#[]⟩, .int .i64 0, .slice none 0 0] 26)
  have HC := Lib.hid (h.below hbA)
  have X0 := Lib.hid (X7.new w 26 (.int .i64 0) (.string ⟨#[]⟩) (.string ⟨#[]⟩) (.int .i64 0) (.string ⟨#[]⟩) (.int .i64 0) (.slice none 0 0))
  clear h
  go_enter Tryz.func30, Tryz.ntmps30
  go_wp2_with fail
  refine (source_any HC.out).mono ?_
  rintro e w1 ⟨rfl, hs, hb⟩
  rw [World.size_alloc] at hs
  have HB := Lib.hid (below_then hbA hb)
  have X1 := Lib.hid (X0.out.below hb)
  have KD := l8Draw_any (w.heap.size + 1) a n c xs 0 (by decide) w1 hs
  unfold PrBent at KD
  have hz1 := hs.lt
  clear hs hb hbA X0
  go_wp2_with fail
  refine KD.mono ?_
  clear KD
  rintro e w2 ⟨y, x, m, q, A, N, C, k', rfl, hG, hm, hPD, hk', hs2, hg⟩
  have X2' := Lib.hid (X1.out.grown hg (by intro e; injection e with e; omega))
  have HB2 := Lib.hid (below_step HB.out hg (by omega))
  have GM := Lib.hid hG
  have HP := Lib.hid hPD
  clear hs2 hg hG hPD X1
  have e0 := X2'.out.c0
  have e1 := X2'.out.c1
  have e2 := X2'.out.c2
  have e3 := X2'.out.c3
  have e4 := X2'.out.c4
  have e5 := X2'.out.c5
  have e6 := X2'.out.c6
  have g0 := X2'.out.fz 0 (by decide)
  have g1 := X2'.out.fz 1 (by decide)
  have g2 := X2'.out.fz 2 (by decide)
  have g3 := X2'.out.fz 3 (by decide)
  have g4 := X2'.out.fz 4 (by decide)
  have g5 := X2'.out.fz 5 (by decide)
  have g6 := X2'.out.fz 6 (by decide)
  have Z := X2'.out.fill (.int .i64 y.kind) (.string y.sender) (.string y.goal) (.int .i64 y.shown) (.string y.status) (.int .i64 y.prio) (.slice (some x) m q)
  have z0 := Z.c0
  have z1 := Z.c1
  have z2 := Z.c2
  have z3 := Z.c3
  have z4 := Z.c4
  have z5 := Z.c5
  have z6 := Z.c6
  clear Z
  have GI := Lib.hid (HP.out.own ((GM.out.onlyP (only_fill7 w2 w.heap.size (.int .i64 y.kind) (.string y.sender) (.string y.goal) (.int .i64 y.shown) (.string y.status) (.int .i64 y.prio) (.slice (some x) m q)) (fun i h1 h2 hp => by omega)).base (B' := w.heap.size) (by omega)))
  have BF := Lib.hid (below_fill7 HB2.out w.heap.size (Nat.le_refl _) (.int .i64 y.kind) (.string y.sender) (.string y.goal) (.int .i64 y.shown) (.string y.status) (.int .i64 y.prio) (.slice (some x) m q))
  go_wp2
  exact bodyPost_ret (v := .agg #[.int .i64 y.kind, .string y.sender, .string y.goal, .int .i64 y.shown, .string y.status, .int .i64 y.prio, .slice (some x) m q]) (by simp [results, Tryz.results30, go_sem, z0, z1, z2, z3, z4, z5, z6, e0, e1, e2, e3, e4, e5, e6]) rfl (by unfold TopPr; exact ⟨y, x, m, q, rfl, GI.out, HP.out, BF.out⟩)
set_option maxRecDepth 100000 in
set_option maxHeartbeats 1600000 in
theorem drawProjectionOf_any (a : Option Addr) (n c : Nat) (xs : List Int) (w : World) (h : CodeAt w a n c xs) :
    Calls Tryz.prog 32 #[.slice a n c] w (TopPr w) := by
  have hbA := below1 w (.cells #[.int .i64 0, .string ⟨#[]⟩, .string ⟨#[]⟩, .int .i64 0, .string ⟨#[]⟩, .int .i64 0, .slice none 0 0] 26)
  have HC := Lib.hid (h.below hbA)
  have X0 := Lib.hid (X7.new w 26 (.int .i64 0) (.string ⟨#[]⟩) (.string ⟨#[]⟩) (.int .i64 0) (.string ⟨#[]⟩) (.int .i64 0) (.slice none 0 0))
  clear h
  go_enter Tryz.func32, Tryz.ntmps32
  go_wp2_with fail
  refine (source_any HC.out).mono ?_
  rintro e w1 ⟨rfl, hs, hb⟩
  rw [World.size_alloc] at hs
  have HB := Lib.hid (below_then hbA hb)
  have X1 := Lib.hid (X0.out.below hb)
  have KD := l8Draw_any (w.heap.size + 1) a n c xs 0 (by decide) w1 hs
  unfold PrBent at KD
  have hz1 := hs.lt
  clear hs hb hbA X0
  go_wp2_with fail
  refine KD.mono ?_
  clear KD
  rintro e w2 ⟨y, x, m, q, A, N, C, k', rfl, hG, hm, hPD, hk', hs2, hg⟩
  have X2' := Lib.hid (X1.out.grown hg (by intro e; injection e with e; omega))
  have HB2 := Lib.hid (below_step HB.out hg (by omega))
  have GM := Lib.hid hG
  have HP := Lib.hid hPD
  clear hs2 hg hG hPD X1
  have e0 := X2'.out.c0
  have e1 := X2'.out.c1
  have e2 := X2'.out.c2
  have e3 := X2'.out.c3
  have e4 := X2'.out.c4
  have e5 := X2'.out.c5
  have e6 := X2'.out.c6
  have g0 := X2'.out.fz 0 (by decide)
  have g1 := X2'.out.fz 1 (by decide)
  have g2 := X2'.out.fz 2 (by decide)
  have g3 := X2'.out.fz 3 (by decide)
  have g4 := X2'.out.fz 4 (by decide)
  have g5 := X2'.out.fz 5 (by decide)
  have g6 := X2'.out.fz 6 (by decide)
  have Z := X2'.out.fill (.int .i64 y.kind) (.string y.sender) (.string y.goal) (.int .i64 y.shown) (.string y.status) (.int .i64 y.prio) (.slice (some x) m q)
  have z0 := Z.c0
  have z1 := Z.c1
  have z2 := Z.c2
  have z3 := Z.c3
  have z4 := Z.c4
  have z5 := Z.c5
  have z6 := Z.c6
  clear Z
  have GI := Lib.hid (HP.out.own ((GM.out.onlyP (only_fill7 w2 w.heap.size (.int .i64 y.kind) (.string y.sender) (.string y.goal) (.int .i64 y.shown) (.string y.status) (.int .i64 y.prio) (.slice (some x) m q)) (fun i h1 h2 hp => by omega)).base (B' := w.heap.size) (by omega)))
  have BF := Lib.hid (below_fill7 HB2.out w.heap.size (Nat.le_refl _) (.int .i64 y.kind) (.string y.sender) (.string y.goal) (.int .i64 y.shown) (.string y.status) (.int .i64 y.prio) (.slice (some x) m q))
  go_wp2
  exact bodyPost_ret (v := .agg #[.int .i64 y.kind, .string y.sender, .string y.goal, .int .i64 y.shown, .string y.status, .int .i64 y.prio, .slice (some x) m q]) (by simp [results, Tryz.results32, go_sem, z0, z1, z2, z3, z4, z5, z6, e0, e1, e2, e3, e4, e5, e6]) rfl (by unfold TopPr; exact ⟨y, x, m, q, rfl, GI.out, HP.out, BF.out⟩)
end Go.Proofs.YtcaknhoaoodbfaaGreatDoor
