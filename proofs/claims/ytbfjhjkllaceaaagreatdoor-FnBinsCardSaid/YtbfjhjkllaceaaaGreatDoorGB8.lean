/- Texts laid together, part 8. -/
import Derived.Test.YtbfjhjkllaceaaaGreatDoorGB7

/- The model's UnpackTree. -/
namespace Go.Proofs.YtbfjhjkllaceaaaGreatDoor
open Go.ChangeShapes Go.WideShapes Go.ChangeAt Go.RowKit
set_option linter.unusedVariables false

/-- items are read, so many -/
def rdI (ts : List ByteArray) : Nat → Int → Rd → List It → Rd × List It
  | 0, _, r, es => (r, es)
  | f + 1, n, r, es => if 0 < n ∧ r.bad = false then rdI ts f (n - 1) (itR ts r) (es ++ [itV ts r]) else (r, es)
theorem rdI_stop {ts : List ByteArray} {f : Nat} {n : Int} {r : Rd} {es : List It} (h : ¬ (0 < n ∧ r.bad = false)) : rdI ts f n r es = (r, es) := by
  cases f with
  | zero => rfl
  | succ f => unfold rdI; rw [if_neg h]
theorem rdI_go {ts : List ByteArray} {f : Nat} {n : Int} {r : Rd} {es : List It} (h : 0 < n ∧ r.bad = false) : rdI ts (f + 1) n r es = rdI ts f (n - 1) (itR ts r) (es ++ [itV ts r]) := by
  conv => lhs; unfold rdI
  rw [if_pos h]
theorem rdA_left (ts : List ByteArray) : ∀ (f : Nat) (n : Int) (r : Rd) (es : List At), left (rdA ts f n r es).1 ≤ left r ∧ (rdA ts f n r es).1.xs.length ≤ r.xs.length
  | 0, n, r, es => ⟨Nat.le_refl _, Nat.le_refl _⟩
  | f + 1, n, r, es => by
    by_cases h : 0 < n ∧ r.bad = false
    · rw [rdA_go h]
      have h1 := rdA_left ts f (n - 1) (txtR ts (txtR ts r)) (es ++ [⟨txtV ts r, txtV ts (txtR ts r)⟩])
      have h2 := (txtR_left ts r).1
      have h3 := (txtR_left ts (txtR ts r)).1
      have h4 := txtR_len ts r
      have h5 := txtR_len ts (txtR ts r)
      omega
    · rw [rdA_stop h]
      exact ⟨Nat.le_refl _, Nat.le_refl _⟩
theorem left_bad (xs : List Int) : left ⟨xs, true⟩ = 0 := rfl
theorem itR_left (ts : List ByteArray) (r : Rd) : left (itR ts r) ≤ left r ∧ (r.bad = false → left (itR ts r) < left r) := by
  have h1 := numR_left r
  have h2 := (numR_left (numR r)).1
  have h3 := (txtR_left ts (numR (numR r))).1
  have h4 := (txtR_left ts (txtR ts (numR (numR r)))).1
  have h5 := (numR_left (txtR ts (txtR ts (numR (numR r))))).1
  have h6 := (rdA_left ts (r.xs.length + 1) (numV (txtR ts (txtR ts (numR (numR r))))) (numR (txtR ts (txtR ts (numR (numR r))))) []).1
  unfold itR
  generalize rdA ts (r.xs.length + 1) (numV (txtR ts (txtR ts (numR (numR r))))) (numR (txtR ts (txtR ts (numR (numR r))))) [] = Q at h6 ⊢
  split
  · exact ⟨by omega, fun hb => by have := h1.2 hb; omega⟩
  · dsimp only
    split
    · rw [left_bad]
      refine ⟨Nat.zero_le _, fun hb => ?_⟩
      unfold left
      rw [hb]
      simp
    · exact ⟨by omega, fun hb => by have := h1.2 hb; omega⟩
theorem itR_len (ts : List ByteArray) (r : Rd) : (itR ts r).xs.length ≤ r.xs.length := by
  have h1 := numR_len r
  have h2 := numR_len (numR r)
  have h3 := txtR_len ts (numR (numR r))
  have h4 := txtR_len ts (txtR ts (numR (numR r)))
  have h5 := numR_len (txtR ts (txtR ts (numR (numR r))))
  have h6 := (rdA_left ts (r.xs.length + 1) (numV (txtR ts (txtR ts (numR (numR r))))) (numR (txtR ts (txtR ts (numR (numR r))))) []).2
  unfold itR
  generalize rdA ts (r.xs.length + 1) (numV (txtR ts (txtR ts (numR (numR r))))) (numR (txtR ts (txtR ts (numR (numR r))))) [] = Q at h6 ⊢
  split
  · omega
  · dsimp only
    split
    · show Q.1.xs.length ≤ _
      omega
    · omega
theorem txtV_small {ts : List ByteArray} (h : ∀ t ∈ ts, t.size ≤ 60) (q : Rd) : (txtV ts q).size ≤ 60 := by
  unfold txtV
  split
  · rename_i hq
    have := (numV_bd q).1
    exact h _ (by
      rw [List.getD_eq_getElem?_getD, List.getElem?_eq_getElem (show (numV q).toNat < ts.length by omega)]
      exact List.getElem_mem _)
  · simp
theorem rdA_small {ts : List ByteArray} (h : ∀ t ∈ ts, t.size ≤ 60) : ∀ (f : Nat) (n : Int) (r : Rd) (es : List At), (∀ i, (es.getD i dAt).name.size ≤ 60 ∧ (es.getD i dAt).value.size ≤ 60) →
    (rdA ts f n r es).2.length ≤ es.length + f ∧ ∀ i, ((rdA ts f n r es).2.getD i dAt).name.size ≤ 60 ∧ ((rdA ts f n r es).2.getD i dAt).value.size ≤ 60
  | 0, n, r, es, hs => ⟨by simp [rdA], by simpa [rdA] using hs⟩
  | f + 1, n, r, es, hs => by
    by_cases hc : 0 < n ∧ r.bad = false
    · rw [rdA_go hc]
      have := rdA_small h f (n - 1) (txtR ts (txtR ts r)) (es ++ [⟨txtV ts r, txtV ts (txtR ts r)⟩]) (sizes_snoc hs (txtV_small h _) (txtV_small h _))
      rw [List.length_append] at this
      simp only [List.length_cons, List.length_nil] at this
      exact ⟨by omega, this.2⟩
    · rw [rdA_stop hc]
      exact ⟨Nat.le_add_right _ _, hs⟩
/-- what an item read is like -/
structure ReadIt (x : It) : Prop where
  depth : 0 ≤ x.depth ∧ x.depth ≤ 9223372036854775807
  sizes : x.text.size ≤ 60 ∧ x.space.size ≤ 60 ∧ x.name.size ≤ 60
  many : x.attrs.length ≤ 3001
  ats : ∀ i, (x.attrs.getD i dAt).name.size ≤ 60 ∧ (x.attrs.getD i dAt).value.size ≤ 60
theorem itV_read {ts : List ByteArray} (h : ∀ t ∈ ts, t.size ≤ 60) (r : Rd) (hl : r.xs.length ≤ 3000) : ReadIt (itV ts r) := by
  have e0 : ∀ i, (([] : List At).getD i dAt).name.size ≤ 60 ∧ (([] : List At).getD i dAt).value.size ≤ 60 := fun i => by simp [dAt]
  have h1 := rdA_small h (r.xs.length + 1) (numV (txtR ts (txtR ts (numR (numR r))))) (numR (txtR ts (txtR ts (numR (numR r))))) [] e0
  simp only [List.length_nil, Nat.zero_add] at h1
  have h2 := numV_bd r
  have h3 := txtV_small h (numR (numR r))
  have h4 := txtV_small h (txtR ts (numR (numR r)))
  have h5 : (ByteArray.empty).size ≤ 60 := Nat.zero_le _
  unfold itV
  generalize rdA ts (r.xs.length + 1) (numV (txtR ts (txtR ts (numR (numR r))))) (numR (txtR ts (txtR ts (numR (numR r))))) [] = Q at h1 ⊢
  generalize txtV ts (numR (numR r)) = a at h3 ⊢
  generalize txtV ts (txtR ts (numR (numR r))) = b at h4 ⊢
  generalize numV r = d at h2 ⊢
  split
  · exact ⟨h2, ⟨h3, h5, h5⟩, Nat.zero_le _, e0⟩
  · exact ⟨h2, ⟨h5, h3, h4⟩, Nat.le_trans h1.1 (by omega), h1.2⟩
theorem dIt_read : ReadIt dIt := ⟨by simp [dIt], by simp [dIt], by simp [dIt], fun i => by simp [dIt, dAt]⟩
theorem smallIts {l : List It} (hl : l.length ≤ 3001) (h : ∀ i, ReadIt (l.getD i dIt)) : SmallIts l := by
  refine ⟨by omega, fun i hi => ?_⟩
  have := h i
  exact ⟨⟨by have := this.sizes; omega, by have := this.sizes; omega, by have := this.sizes; omega⟩, by have := this.many; omega, fun j hj => ⟨by have := (this.ats j).1; omega, by have := (this.ats j).2; omega⟩⟩
theorem reads_snoc {l : List It} {x : It} (h : ∀ i, ReadIt (l.getD i dIt)) (hx : ReadIt x) : ∀ i, ReadIt ((l ++ [x]).getD i dIt) := by
  intro i
  by_cases hi : i < l.length
  · have e : (l ++ [x]).getD i dIt = l.getD i dIt := by rw [List.getD_eq_getElem?_getD, List.getElem?_append_left hi, ← List.getD_eq_getElem?_getD]
    rw [e]
    exact h i
  · by_cases h2 : i = l.length
    · subst h2
      have e : (l ++ [x]).getD l.length dIt = x := by rw [List.getD_eq_getElem?_getD, List.getElem?_append_right (Nat.le_refl _)]; simp
      rw [e]
      exact hx
    · have e : (l ++ [x]).getD i dIt = dIt := by rw [List.getD_eq_getElem?_getD, List.getElem?_eq_none (by simp; omega)]; rfl
      rw [e]
      exact dIt_read
theorem stxt_small (xs : List Int) : (stxt xs).size ≤ 60 := by
  unfold stxt
  split
  · rename_i h
    unfold sOk at h
    simp only [Bool.and_eq_true, decide_eq_true_eq] at h
    have := fault_size h.2.2
    rw [dataLen] at this
    exact this
  · exact Nat.zero_le _
theorem rdS_small : ∀ (f : Nat) (n : Int) (r : Rd) (ts : List ByteArray), (∀ t ∈ ts, t.size ≤ 60) → (∀ t ∈ (rdS f n r ts).2, t.size ≤ 60) ∧ (rdS f n r ts).1.xs.length ≤ r.xs.length
  | 0, n, r, ts, h => ⟨h, Nat.le_refl _⟩
  | f + 1, n, r, ts, h => by
    by_cases hc : 0 < n ∧ r.bad = false
    · by_cases h0 : ssz r.xs = 0
      · rw [rdS_bad hc h0]
        exact ⟨h, Nat.le_refl _⟩
      · rw [rdS_go hc h0]
        have := rdS_small f (n - 1) ⟨r.xs.drop (ssz r.xs).toNat, false⟩ (ts ++ [stxt r.xs]) (fun t ht => by
          rw [List.mem_append, List.mem_singleton] at ht
          rcases ht with ht | rfl
          · exact h t ht
          · exact stxt_small _)
        refine ⟨this.1, Nat.le_trans this.2 ?_⟩
        show (r.xs.drop (ssz r.xs).toNat).length ≤ _
        simp
    · rw [rdS_stop hc]
      exact ⟨h, Nat.le_refl _⟩
theorem vput_by (n : Nat) : ∀ x ∈ vput n, 0 ≤ x ∧ x < 256 := fun x hx => by have := vput_bytes n n (Nat.le_refl _) x hx; omega
theorem bytesI_by (l : List UInt8) : ∀ x ∈ bytesI l, 0 ≤ x ∧ x < 256 := by
  intro x hx
  unfold bytesI at hx
  obtain ⟨c, _, rfl⟩ := List.mem_map.1 hx
  have := c.toNat_lt
  omega
theorem refB_by (ts : List ByteArray) (t : ByteArray) : ∀ x ∈ refB ts t, 0 ≤ x ∧ x < 256 := vput_by _
theorem packL_bytes (l : List It) : ∀ x ∈ packL l, 0 ≤ x ∧ x < 256 := by
  intro x hx
  unfold packL at hx
  simp only [List.mem_append, List.mem_flatMap] at hx
  rcases hx with ((hx | ⟨t, _, hx⟩) | hx) | ⟨y, _, hx⟩
  · exact vput_by _ x hx
  · unfold strB at hx
    rw [List.mem_append] at hx
    rcases hx with hx | hx
    · exact vput_by _ x hx
    · exact bytesI_by _ x hx
  · exact vput_by _ x hx
  · unfold itB at hx
    rw [List.mem_append] at hx
    rcases hx with hx | hx
    · exact vput_by _ x hx
    · split at hx
      · rw [List.mem_cons] at hx
        rcases hx with rfl | hx
        · omega
        · exact refB_by _ _ x hx
      · simp only [List.mem_cons, List.mem_append, List.mem_flatMap] at hx
        rcases hx with rfl | ((hx | hx) | hx) | ⟨a, _, hx⟩
        · omega
        · exact refB_by _ _ x hx
        · exact refB_by _ _ x hx
        · exact vput_by _ x hx
        · unfold attB at hx
          rw [List.mem_append] at hx
          rcases hx with hx | hx
          · exact refB_by _ _ x hx
          · exact refB_by _ _ x hx
/-- all that a frame is read as -/
def unS (xs : List Int) : Rd × List ByteArray := rdS (xs.length + 1) (numV ⟨xs, false⟩) (numR ⟨xs, false⟩) []
def unI (xs : List Int) : Rd × List It := rdI (unS xs).2 (xs.length + 1) (numV (unS xs).1) (numR (unS xs).1) []
def unOk (xs : List Int) : Prop := (unI xs).1.bad = false ∧ treeCode (unI xs).2 = 0 ∧ packL (unI xs).2 = xs
end Go.Proofs.YtbfjhjkllaceaaaGreatDoor

/- The model's UnpackTree: the walk. -/
namespace Go.Proofs.YtbfjhjkllaceaaaGreatDoor
open Go.ChangeShapes Go.WideShapes Go.ChangeAt Go.RowKit
set_option linter.unusedVariables false

open Classical in
/-- the code and the items of UnpackTree -/
noncomputable def unCodeT (xs : List Int) : Int := if 3000 < xs.length then 2 else if unOk xs then 0 else 5
open Classical in
noncomputable def unIts (xs : List Int) : List It := if 3000 < xs.length then [] else if unOk xs then (unI xs).2 else []
/-- a code and items of one's own are handed back -/
def UnRes (w : World) (cd : Int) (l : List It) (e : Ending) (w' : World) : Prop :=
  ∃ a n c, e = .returned (.agg #[.int .i64 cd, .slice a n c]) ∧ OwnIts w' w.heap.size w'.heap.size a n c l ∧ Below w.heap.size w w'
theorem no_items (w : World) (lo hi : Nat) : OwnIts w lo hi none 0 0 [] := ⟨rfl, by omega, fun i hi => by omega, .inl rfl⟩

theorem RdAt.fresh {w W : World} {a : Option Addr} {n c : Nat} {xs : List Int} (T : TypeId) (hW : Below w.heap.size w W) (hn : n = xs.length) (hr : Row w .u8 (.slice a n c) xs) (hby : ∀ i, 0 ≤ xs.getD i 0 ∧ xs.getD i 0 ≤ 255) :
    RdAt w (W.alloc (.cells #[.slice a n c, .slice none 0 0, .bool false] T)) W.heap.size ⟨xs, false⟩ [] :=
  ⟨by simp, hW.size, hW.alloc hW.size _, hby, ⟨a, n, c, by simp, hn, hr⟩, ⟨none, 0, 0, by simp, World.ownsRow_nil _ _ _ _, by simp [Value.ownBlock]⟩, by simp, by simp, by simp, by simp⟩

/-- an operation that is not wanted -/
theorem step_skip {P : Program} {ops : Array Oper} {o : Oper} {a : Act} {w : World} {K : Act → World → Prop} {Q : Exit → Act → World → Prop} {E : Prop} (hw : Region.wanted o (yielded ops a.tmps) = false) (h : E) :
    if Region.wanted o (yielded ops a.tmps) = true then Oper.wp P o a w K Q else E := by
  rw [if_neg (by rw [hw]; decide)]
  exact h
/-- two cells of a result -/
structure R2 (w : World) (b : Nat) (v0 v1 : Value) : Prop where
  lt : b < w.heap.size
  c0 : w.cell? ⟨b, 0, none⟩ = some v0
  c1 : w.cell? ⟨b, 1, none⟩ = some v1
  f0 : w.frozen? ⟨b, 0, none⟩ = false
  f1 : w.frozen? ⟨b, 1, none⟩ = false
theorem R2.new (w : World) (T : TypeId) (v0 v1 : Value) : R2 (w.alloc (.cells #[v0, v1] T)) w.heap.size v0 v1 := ⟨by simp, by simp, by simp, by simp, by simp⟩
theorem R2.grown {w w' : World} {b : Nat} {v0 v1 : Value} {row : Option Nat} (h : R2 w b v0 v1) (hg : w.grownBy w' row) (hne : some b ≠ row) : R2 w' b v0 v1 :=
  ⟨Nat.lt_of_lt_of_le h.lt hg.size, hg.cell h.c0 hne, hg.cell h.c1 hne, (hg.frozen_far ⟨b, 0, none⟩ h.lt hne).trans h.f0, (hg.frozen_far ⟨b, 1, none⟩ h.lt hne).trans h.f1⟩
theorem own_onlyI {w w' : World} {lo hi lo' hi' : Nat} {a : Option Addr} {n c : Nat} {l : List It} {P : Nat → Prop} (h : OwnIts w lo hi a n c l) (ho : Only P w w') (hP : ∀ i, lo ≤ i → ¬ P i) (h1 : lo' ≤ lo) (h2 : hi ≤ hi') : OwnIts w' lo' hi' a n c l := by
  refine ⟨h.len, h.max, h.it, h.row.imp id ?_⟩
  rintro ⟨b, A, N, C, ha, g1, g2, hr, hc, hab, haa⟩
  refine ⟨b, A, N, C, ha, by omega, by omega, hr.only ho (hP b g1), fun i hi => ?_, hab, haa⟩
  have k1 := (hc i hi).1.only hr.1 ho (hP b g1)
  have k2 := (hc i hi).2.only ho fun x hx hne => by
    obtain ⟨b5, e5, q1, q2, _⟩ := (hc i hi).2.own.resolve_left hne
    rw [hx] at e5
    cases e5
    exact hP b5 q1
  exact ⟨k1, k2.ats, k2.own.imp id fun ⟨b5, e5, q1, q2, q3⟩ => ⟨b5, e5, by omega, by omega, q3⟩⟩
theorem own_belowI {w w' : World} {lo : Nat} {a : Option Addr} {n c : Nat} {l : List It} (h : OwnIts w lo w.heap.size a n c l) (hb : Below w.heap.size w w') : OwnIts w' lo w'.heap.size a n c l :=
  own_onlyI h (Only.below (P := fun _ => False) hb) (fun _ _ h => h) (Nat.le_refl _) hb.size
theorem own_setI {w : World} {lo hi : Nat} {a : Option Addr} {n c : Nat} {l : List It} (h : OwnIts w lo hi a n c l) (p : Addr) (v : Value) (hp : p.block < lo) : OwnIts (w.setCell p v) lo hi a n c l :=
  own_onlyI h (Only.set (P := fun i => i = p.block) w p v rfl) (fun i hi e => by omega) (Nat.le_refl _) (Nat.le_refl _)
theorem R2.below {w w' : World} {b : Nat} {v0 v1 : Value} (h : R2 w b v0 v1) (hb : Below w.heap.size w w') : R2 w' b v0 v1 := h.grown (row := none) (grown_below hb) (by simp)
theorem GrowIts.far {w w' : World} {B b : Nat} {v : Value} {n : Nat} {l : List It} {A : Nat → Option Addr} {N C : Nat → Nat} (h : GrowIts w B v n l A N C) (hg : w.grownBy w' (some b)) (hb : b < B) : GrowIts w' B v n l A N C := by
  refine ⟨row_kept h.row hg (fun e => by have := (h.row.lt b e).1; omega), fun i hi => ⟨?_, (h.ats i hi).2⟩, h.apart, h.each⟩
  have h1 := (h.ats i hi).1.only (Only.grown hg) fun y hy hne e => by
    have := (h.ats i hi).1.in hy hne
    simp only [Option.some.injEq] at e
    omega
  exact ⟨h1.ats, h1.own.imp id fun ⟨q, g1, g2, g3, g4⟩ => ⟨q, g1, g2, by have := hg.size; omega, g4⟩⟩
theorem itCells (W : World) (v0 v1 v2 v3 v4 : Value) (j : Nat) (u : Value) (hj : [v0, v1, v2, v3, v4][j]? = some u) : ((W.alloc (.cells #[v0, v1, v2, v3, v4] 68))).cell? (Addr.add ⟨W.heap.size, 0, none⟩ j) = some u := by
  match j, hj with
  | 0, hj => simp at hj; subst hj; simp [Addr.add]
  | 1, hj => simp at hj; subst hj; simp [Addr.add]
  | 2, hj => simp at hj; subst hj; simp [Addr.add]
  | 3, hj => simp at hj; subst hj; simp [Addr.add]
  | 4, hj => simp at hj; subst hj; simp [Addr.add]
theorem growStart (w : World) : GrowIts (w.alloc (.cells #[] 68)) w.heap.size (.slice (some ⟨w.heap.size, 0, none⟩) 0 0) 0 [] (fun _ => none) (fun _ => 0) (fun _ => 0) :=
  ⟨lit_item w, fun i hi => by simp at hi, fun i hi => by simp at hi, fun i j hi => by simp at hi⟩

set_option maxRecDepth 100000 in
set_option maxHeartbeats 6400000 in
theorem specUnpackTree_any (a : Option Addr) (n c : Nat) (xs : List Int) (w : World) (hn : n = xs.length) (hm : n ≤ 1048576) (h : Row w .u8 (.slice a n c) xs) (hby : ∀ i, 0 ≤ xs.getD i 0 ∧ xs.getD i 0 ≤ 255) :
    Calls Tryz.prog 16 #[.slice a n c] w (UnRes w (unCodeT xs) (unIts xs)) := by
  obtain ⟨i0, hi, hz0, hi1, hz2⟩ := info_parts itemInfo
  unfold UnRes
  by_cases h3 : 3000 < n
  · have e1 : unCodeT xs = 2 := by unfold unCodeT; rw [if_pos (by omega)]
    have e2 : unIts xs = [] := by unfold unIts; rw [if_pos (by omega)]
    rw [e1, e2]
    clear h hby hn e1 e2
    go_enter Tryz.func16, Tryz.ntmps16
    go_wp2
    exact bodyPost_ret (v := .agg #[.int .i64 2, .slice none 0 0]) (by simp [results, Tryz.results16, go_sem]) rfl
      ⟨none, 0, 0, rfl, no_items _ _ _, below1 w _⟩
  · have HUN := Lib.hid (show ∃ z, z = unOk xs from ⟨_, rfl⟩)
    generalize hcd : unCodeT xs = cd
    generalize hit : unIts xs = its
    have HCD := Lib.hid hcd
    have HIT := Lib.hid hit
    have h3' : (n : Int) ≤ 3000 := by omega
    have KS := Lib.hid (fun (W : World) (b : Nat) (hh : RdAt w W b ⟨xs, false⟩ []) (hnil : W.cell? ⟨b, 1, none⟩ = some (.slice none 0 0)) => strings_any w b ⟨xs, false⟩ W hh hnil (by show xs.length ≤ 3000; omega))
    have HF := Lib.hid (fun (W : World) (T : TypeId) (hW : Below w.heap.size w W) => RdAt.fresh T hW hn h hby)
    have HR := Lib.hid h
    have HBY := Lib.hid hby
    have HN := Lib.hid hn
    clear h hby hn hcd hit h3
    go_enter Tryz.func16, Tryz.ntmps16
    go_wp2_with fail
    refine (KS.out _ (w.heap.size + 1) (by have := HF.out (w.alloc (.cells #[.int .i64 0, .slice none 0 0] 31)) 64 (below1 w _); simpa using this) (by simp)).mono ?_
    rintro e w1 ⟨rfl, hr1, hg1⟩
    have hS : unS xs = rdS (xs.length + 1) (numV ⟨xs, false⟩) (numR ⟨xs, false⟩) [] := rfl
    have hr1 : RdAt w w1 (w.heap.size + 1) (unS xs).1 (unS xs).2 := hr1
    have hI : unI xs = rdI (unS xs).2 (xs.length + 1) (numV (unS xs).1) (numR (unS xs).1) [] := rfl
    have hsm := rdS_small (xs.length + 1) (numV ⟨xs, false⟩) (numR ⟨xs, false⟩) [] (fun t ht => by simp at ht)
    rw [← hS] at hsm
    have hlr : (unS xs).1.xs.length ≤ 3000 := by
      have h1 := hsm.2
      have h2 := numR_len ⟨xs, false⟩
      have h3 := HN.out
      have h4 : (numR ⟨xs, false⟩).xs.length ≤ xs.length := h2
      omega
    have hbn := numV_bd (unS xs).1
    have hl5 : left (numR (unS xs).1) ≤ xs.length + 1 := by
      have h1 := left_len (numR (unS xs).1)
      have h2 := numR_len (unS xs).1
      have h3 := hsm.2
      have h4 : (numR ⟨xs, false⟩).xs.length ≤ xs.length := numR_len ⟨xs, false⟩
      omega
    have hx5 : (numR (unS xs).1).xs.length ≤ 3000 := Nat.le_trans (numR_len _) hlr
    have hts := hsm.1
    have HOKD : Hid (unOk xs ↔ (unI xs).1.bad = false ∧ treeCode (unI xs).2 = 0 ∧ packL (unI xs).2 = xs) := Lib.hid Iff.rfl
    have HUI := Lib.hid hI
    generalize (unS xs).2 = ts at *
    generalize (unS xs).1 = r1 at *
    generalize hFU0 : unI xs = F at *
    have HFU := Lib.hid (congrArg Prod.snd hFU0)
    clear hFU0
    have HC5 : Hid (¬ unOk xs → cd = 5 ∧ its = []) := Lib.hid (fun hno => by
      have h3 := HN.out
      rw [← HCD.out, ← HIT.out]
      unfold unCodeT unIts
      rw [if_neg (by omega), if_neg hno, if_neg (by omega), if_neg hno]
      exact ⟨rfl, rfl⟩)
    have HC0 : Hid (unOk xs → cd = 0 ∧ its = F.2) := Lib.hid (fun hyes => by
      have h3 := HN.out
      rw [← HCD.out, ← HIT.out]
      unfold unCodeT unIts
      rw [if_neg (by omega), if_pos hyes, if_neg (by omega), if_pos hyes]
      exact ⟨rfl, HFU.out⟩)
    have HE := Lib.hid hr1
    have HV1 := Lib.hid ((R2.new w 31 (.int .i64 0) (.slice none 0 0)).below (below1 _ (.cells #[.slice a n c, .slice none 0 0, .bool false] 64)))
    have KN : Hid (∀ (q : Rd) (W : World) (hh : ItSt w w1 W (w.heap.size + 1) q ts), Calls Tryz.prog 43 #[.pointer (some ⟨w.heap.size + 1, 0, none⟩)] W fun e w' => e = .returned (.int .i64 (numV q)) ∧ ItSt w w1 w' (w.heap.size + 1) (numR q) ts ∧ W.grownBy w' (some (w.heap.size + 1))) :=
      Lib.hid (fun q W hh => (number_any w (w.heap.size + 1) q ts W hh.rd).mono fun e w' ⟨a, bb, c, d⟩ => ⟨a, ⟨bb, grown_trans' hh.gr c, d.trans hh.lst⟩, c⟩)
    have HG1 := Lib.hid hg1
    have H1 : Hid (ItSt w w1 w1 (w.heap.size + 1) r1 ts) := Lib.hid ⟨hr1, World.grownBy.refl _ _, rfl⟩
    have hlt1 := hr1.lt
    clear hr1 hg1 hS hI hsm KS
    go_wp2_with fail
    refine (KN.out r1 _ (H1.out.below (below1 w1 _))).mono ?_
    rintro e w2 ⟨rfl, s2, g2⟩
    have S2 := Lib.hid s2
    have G2 := Lib.hid ((growStart w1).far g2 hlt1)
    have V2 := Lib.hid (((HV1.out.grown HG1.out (by simp)).below (below1 _ (.cells #[] 68))).grown g2 (by simp))
    clear s2 g2
    have HEQ : Hid (rdI ts (xs.length + 1) (numV r1) (numR r1) [] = F) := Lib.hid HUI.out.symm
    have hL : xs.length ≤ 3000 := by have := HN.out; omega
    generalize xs.length = L at *
    go_wp2
    go_loopw [4, 5] (fun v k wr => ∃ (f : Nat) (n : Int) (q : Rd) (es : List It) (A : Nat → Option Addr) (N C : Nat → Nat) (a : Option Addr) (m c : Nat), v = .slice a m c ∧ k = .int .i64 n ∧ (0 ≤ n ∧ n ≤ 9223372036854775807) ∧ left q ≤ f ∧ Hid (rdI ts f n q es = F) ∧
        ItSt w w1 wr (w.heap.size + 1) q ts ∧ GrowIts wr w1.heap.size (.slice a m c) m es A N C ∧ R2 wr w.heap.size (.int .i64 0) (.slice none 0 0) ∧ m + left q ≤ L + 1 ∧ (∀ i, ReadIt (es.getD i dIt)) ∧ q.xs.length ≤ 3000) (fun _ _ wr => msr wr (w.heap.size + 1))
    case atStart => exact ⟨L + 1, numV r1, numR r1, [], _, _, _, _, 0, 0, rfl, rfl, hbn, hl5, HEQ, S2.out, G2.out, V2.out, by omega, fun i => by simpa using dIt_read, hx5⟩
    case round =>
      obtain ⟨f, n', q, es, A, N, C, a', m, c', rfl, rfl, hn', hf, HQ, hS, hG, hV, hm', hrd, hqx⟩ := hrel
      have SS := Lib.hid hS
      have GG := Lib.hid hG
      have VV := Lib.hid hV
      have RD := Lib.hid hrd
      have q2 := hS.rd.c2
      have hlt' := hS.rd.lt
      have HM := Lib.hid (msr_is hS.rd)
      clear hS hG hV hrd
      by_cases hgo : 0 < n' ∧ q.bad = false
      · obtain ⟨hn1, hbad⟩ := hgo
        rw [hbad] at q2
        have hl1 : 1 ≤ left q := by unfold left; rw [hbad]; simp
        obtain ⟨f', rfl⟩ : ∃ f', f = f' + 1 := ⟨f - 1, by omega⟩
        have hF := HQ.out
        rw [rdI_go ⟨hn1, hbad⟩] at hF
        have hle1 := (itR_left ts q).2 hbad
        have hlx := itR_len ts q
        have KI := Lib.hid (item_any w (w.heap.size + 1) q ts wr SS.out.rd hqx hts)
        unfold ItGot at KI
        have hri := itV_read hts q hqx
        generalize itV ts q = y at *
        generalize itR ts q = q' at *
        have HF2 := Lib.hid hF
        have HRI := Lib.hid hri
        clear hF hri
        obtain ⟨yd, yt, ys, yn, ya⟩ := y
        dsimp only at KI
        go_wp2_with fail
        refine KI.out.mono ?_
        rintro e w3 ⟨a6, n6, c6, rfl, ho6, hnil6, s6⟩
        have O6 := Lib.hid ho6
        have NIL6 := Lib.hid hnil6
        have S6 := Lib.hid s6
        clear ho6 hnil6 s6 q2
        obtain ⟨X, hX⟩ : ∃ X, X = Obj.cells #[.int .i64 yd, .string yt, .string ys, .string yn, .slice a6 n6 c6] 68 := ⟨_, rfl⟩
        have hXX := Lib.hid hX
        have OR := Lib.hid (row_kept GG.out.row S6.out.gr (fun e => by have := (GG.out.row.lt _ e).1; omega))
        have hge1 : w1.heap.size ≤ wr.heap.size := SS.out.gr.size
        have hge3 : wr.heap.size ≤ w3.heap.size := S6.out.gr.size
        clear hX
        go_wp2_with (at_builtin; refine wpList_append_own_at _ rfl _ _ 24 rfl w1.heap.size 68 i0 (.agg #[.int .i64 0, .string ByteArray.empty, .string ByteArray.empty, .string ByteArray.empty, .slice none 0 0]) 5 80 Tryz.underlying24 hi hz0 hi1 hz2 rfl (by decide) _ m _ rfl ((OR.out.alloc _).alloc _) ⟨w3.heap.size + 1, 0, none⟩ 1 1 [.int .i64 yd, .string yt, .string ys, .string yn, .slice a6 n6 c6] rfl rfl ?c1 ?c2 ?c3 ?c4 ?c5 ?_)
        case c1 => exact fun j u hj => by have := itCells (w3.alloc (.cells #[.int .i64 yd, .string yt, .string ys, .string yn, .slice a6 n6 c6] 68)) _ _ _ _ _ j u hj; simpa using this
        case c2 => intro v hv; simp at hv; rcases hv with rfl | rfl | rfl | rfl | rfl <;> rfl
        case c3 => unfold maxLen; omega
        case c4 => omega
        case c5 => simp; omega
        intro v' w4 hown' hgrow _ hat
        obtain ⟨a8, c8, rfl⟩ := owns_slice hown'
        have hb2 := below2 w3 (.cells #[.int .i64 yd, .string yt, .string ys, .string yn, .slice a6 n6 c6] 68) (.cells #[.int .i64 yd, .string yt, .string ys, .string yn, .slice a6 n6 c6] 68)
        have hatt := O6.out.only (Only.below (P := fun _ => False) hb2) fun _ _ _ h => h
        have G8 := Lib.hid (GG.out.snocO (P := fun i => some i = some (w.heap.size + 1)) (x := ⟨yd, yt, ys, yn, ya⟩) ((Only.grown S6.out.gr).trans (Only.below hb2)) (fun i hi e => by simp only [Option.some.injEq] at e; omega)
          ⟨hatt.ats, hatt.own.imp id fun ⟨q, g1, g2, g3, g4⟩ => ⟨q, g1, g2, by have := hb2.size; omega, g4⟩⟩ NIL6.out hge1 hown' hgrow (hat.imp id fun e => ⟨w3.heap.size + 1 + 1, e, by simp⟩))
        have S8 := Lib.hid (((show ItSt w w1 w3 (w.heap.size + 1) q' ts from ⟨S6.out.rd, grown_trans' SS.out.gr S6.out.gr, S6.out.lst.trans SS.out.lst⟩).below hb2).far HE.out hgrow (fun g hg => (OR.out.lt g hg).1))
        have V8 := Lib.hid (((VV.out.grown S6.out.gr (by simp)).below hb2).grown hgrow (fun e => by have := (OR.out.lt _ e.symm).1; omega))
        have HM8 := Lib.hid (msr_is S8.out.rd)
        have RD8 := Lib.hid (reads_snoc RD.out HRI.out)
        clear hown' hgrow hat hatt hb2
        go_wp2
        go_roundw
        case rel => exact ⟨f', n' - 1, q', es ++ [⟨yd, yt, ys, yn, ya⟩], _, _, _, a8, m + 1, c8, rfl, by go_num, by omega, by omega, HF2, S8.out, G8.out, V8.out, by omega, RD8.out, by omega⟩
        case measure => rw [HM8.out, HM.out]; omega
      · have hF := HQ.out
        rw [rdI_stop hgo] at hF
        have hcs : n' ≤ 0 ∨ (0 < n' ∧ q.bad = true) := by
          by_cases h1 : 0 < n'
          · refine .inr ⟨h1, ?_⟩
            cases hb : q.bad
            · exact absurd ⟨h1, hb⟩ hgo
            · rfl
          · exact .inl (by omega)
        have hF1 : F.1 = q := by rw [← hF]
        have hF2 : F.2 = es := by rw [← hF]
        have OK := Lib.hid HOKD.out
        rw [hF1, hF2] at OK
        have C0 := Lib.hid HC0.out
        rw [hF2] at C0
        have OI := Lib.hid (GG.out.own (by omega) (fun i hi => by have := RD.out i; exact ⟨⟨by have := this.depth; omega, this.depth.2⟩, ⟨by have := this.sizes; omega, by have := this.sizes; omega, by have := this.sizes; omega⟩⟩))
        have IT := Lib.hid OI.out.its
        have KTF := Lib.hid (fun (W : World) (hW : Below wr.heap.size wr W) => specTreeFault_any a' m c' es W (smallIts (by have := IT.out.len; omega) RD.out) (IT.out.below hW))
        have v0 := VV.out.c0
        have v1 := VV.out.c1
        have vf0 := VV.out.f0
        have vf1 := VV.out.f1
        have vlt := VV.out.lt
        have HB0 : Hid (Below w.heap.size w wr) := Lib.hid SS.out.rd.below
        clear hgo hF hF1 hF2
        rcases hcs with hn0 | ⟨hn1, hbt⟩
        · obtain rfl : n' = 0 := by omega
          cases hbq : q.bad
          · rw [hbq] at q2 OK
            have hcvf := fun (W : World) (hW : Below w.heap.size w W) => conv_row (P := Tryz.prog) W Tryz.underlying22 Tryz.underlying5 Tryz.underlying9 (HR.out.below hW)
            have HCVF := Lib.hid hcvf
            have hcv0 := hcvf wr.drew (below_drewN HB0.out 1)
            clear hcvf
            by_cases htc : treeCode es = 0
            · obtain ⟨hl40, hgood⟩ := goodTree htc
              have KP := Lib.hid (fun (W : World) (hW : Below wr.heap.size wr W) => l6Pack_any a' m c' es W hl40 hgood (IT.out.below hW))
              unfold OwnsRes at KP
              rw [htc] at KTF
              have htest := nums_test (packL es) xs (packL_bytes es) (getD_bytes HBY.out)
              rw [htc] at OK
              by_cases hpk : packL es = xs
              · obtain ⟨rfl, rfl⟩ := C0.out (OK.out.2 ⟨rfl, rfl, hpk⟩)
                rw [decide_eq_true hpk] at htest
                clear hpk hgood
                generalize packL its = PP at *
                go_wp2_with fail
                first | (go_region_with (first | (go_at_call 38; refine (KTF.out _ (below_drewN (Below.refl _ _) 1)).mono ?_; rintro e w5 ⟨rfl, hb5⟩; have hcv5 := HCVF.out w5 (below_then HB0.out (below_of_drew hb5))) | (go_at_call 29; refine (KP.out _ (below_of_drew hb5)).mono ?_; rintro e w7 ⟨a7, n7, c7, rfl, ho7, hb7⟩; have hcv7 := conv_row (P := Tryz.prog) w7 Tryz.underlying22 Tryz.underlying5 Tryz.underlying9 (Row.of_owns ho7); have hcv8 := HCVF.out w7 (below_then (below_then HB0.out (below_of_drew hb5)) hb7); clear ho7))) | fail
                all_goals
                  have hbb := below_then (below_of_drew hb5) hb7
                  have y := VV.out.below hbb
                  have y0 := y.c0
                  have y1 := y.c1
                  have yf0 := y.f0
                  have yf1 := y.f1
                  have ylt := y.lt
                  have HB5 := Lib.hid (below_then HB0.out hbb)
                  have OI7 := Lib.hid (own_belowI OI.out hbb)
                  clear y hbb
                  have z0 : ((w7.setCell ⟨w.heap.size, 0, none⟩ (.int .i64 0)).setCell ⟨w.heap.size, 1, none⟩ (.slice a' m c')).cell? ⟨w.heap.size, 0, none⟩ = some (.int .i64 0) := set_oth (by decide) (set_at y0)
                  have z1 : ((w7.setCell ⟨w.heap.size, 0, none⟩ (.int .i64 0)).setCell ⟨w.heap.size, 1, none⟩ (.slice a' m c')).cell? ⟨w.heap.size, 1, none⟩ = some (.slice a' m c') := set_at (set_oth (by decide) y1)
                  go_wp2
                  exact bodyPost_ret (v := .agg #[.int .i64 0, .slice a' m c']) (by simp [results, Tryz.results16, go_sem, z0, z1]) rfl ⟨a', m, c', rfl, own_onlyI (P := fun _ => False) (own_setI (own_setI OI7.out ⟨w.heap.size, 0, none⟩ _ (by simp; omega)) ⟨w.heap.size, 1, none⟩ _ (by simp; omega)) (Only.refl _) (fun _ _ h => h) (by omega) (by simp), (HB5.out.setCell (Nat.le_refl _) _).setCell (Nat.le_refl _) _⟩
              · obtain ⟨rfl, rfl⟩ := HC5.out (fun h => hpk (OK.out.1 h).2.2)
                rw [decide_eq_false hpk] at htest
                clear hpk hgood
                generalize packL es = PP at *
                go_wp2_with fail
                first | (go_region_with (first | (go_at_call 38; refine (KTF.out _ (below_drewN (Below.refl _ _) 1)).mono ?_; rintro e w5 ⟨rfl, hb5⟩; have hcv5 := HCVF.out w5 (below_then HB0.out (below_of_drew hb5))) | (go_at_call 29; refine (KP.out _ (below_of_drew hb5)).mono ?_; rintro e w7 ⟨a7, n7, c7, rfl, ho7, hb7⟩; have hcv7 := conv_row (P := Tryz.prog) w7 Tryz.underlying22 Tryz.underlying5 Tryz.underlying9 (Row.of_owns ho7); have hcv8 := HCVF.out w7 (below_then (below_then HB0.out (below_of_drew hb5)) hb7); clear ho7))) | fail
                all_goals
                  have hbb := below_then (below_of_drew hb5) hb7
                  have y := VV.out.below hbb
                  have y0 := y.c0
                  have y1 := y.c1
                  have yf0 := y.f0
                  have yf1 := y.f1
                  have ylt := y.lt
                  have HB5 := Lib.hid (below_then HB0.out hbb)
                  have OI7 := Lib.hid (own_belowI OI.out hbb)
                  clear y hbb
                  have z0 : ((w7.setCell ⟨w.heap.size, 0, none⟩ (.int .i64 5)).setCell ⟨w.heap.size, 1, none⟩ (.slice none 0 0)).cell? ⟨w.heap.size, 0, none⟩ = some (.int .i64 5) := set_oth (by decide) (set_at y0)
                  have z1 : ((w7.setCell ⟨w.heap.size, 0, none⟩ (.int .i64 5)).setCell ⟨w.heap.size, 1, none⟩ (.slice none 0 0)).cell? ⟨w.heap.size, 1, none⟩ = some (.slice none 0 0) := set_at (set_oth (by decide) y1)
                  go_wp2
                  exact bodyPost_ret (v := .agg #[.int .i64 5, .slice none 0 0]) (by simp [results, Tryz.results16, go_sem, z0, z1]) rfl ⟨none, 0, 0, rfl, no_items _ _ _, (HB5.out.setCell (Nat.le_refl _) _).setCell (Nat.le_refl _) _⟩
            · have hno : ¬ unOk xs := fun h => htc (OK.out.1 h).2.1
              obtain ⟨rfl, rfl⟩ := HC5.out hno
              generalize treeCode es = tc at *
              have ht0 : (tc == 0) = false := by simpa using htc
              have ht1 : (tc != 0) = true := by simpa using htc
              go_wp2_with fail
              first | (go_region_with (go_at_call 38; refine (KTF.out _ (below_drewN (Below.refl _ _) 1)).mono ?_; rintro e w5 ⟨rfl, hb5⟩)) | fail
              all_goals
                have y := VV.out.below (below_of_drew hb5)
                have y0 := y.c0
                have y1 := y.c1
                have yf0 := y.f0
                have yf1 := y.f1
                have ylt := y.lt
                have z0 : ((w5.setCell ⟨w.heap.size, 0, none⟩ (.int .i64 5)).setCell ⟨w.heap.size, 1, none⟩ (.slice none 0 0)).cell? ⟨w.heap.size, 0, none⟩ = some (.int .i64 5) := set_oth (by decide) (set_at y0)
                have z1 : ((w5.setCell ⟨w.heap.size, 0, none⟩ (.int .i64 5)).setCell ⟨w.heap.size, 1, none⟩ (.slice none 0 0)).cell? ⟨w.heap.size, 1, none⟩ = some (.slice none 0 0) := set_at (set_oth (by decide) y1)
                have HB5 := Lib.hid (below_then HB0.out (below_of_drew hb5))
                clear y
                go_wp2
                exact bodyPost_ret (v := .agg #[.int .i64 5, .slice none 0 0]) (by simp [results, Tryz.results16, go_sem, z0, z1]) rfl ⟨none, 0, 0, rfl, no_items _ _ _, (HB5.out.setCell (Nat.le_refl _) _).setCell (Nat.le_refl _) _⟩
          · rw [hbq] at q2 OK
            obtain ⟨rfl, rfl⟩ := HC5.out (fun h => by have := (OK.out.1 h).1; cases this)
            have z0 : ((wr.setCell ⟨w.heap.size, 0, none⟩ (.int .i64 5)).setCell ⟨w.heap.size, 1, none⟩ (.slice none 0 0)).cell? ⟨w.heap.size, 0, none⟩ = some (.int .i64 5) := set_oth (by decide) (set_at v0)
            have z1 : ((wr.setCell ⟨w.heap.size, 0, none⟩ (.int .i64 5)).setCell ⟨w.heap.size, 1, none⟩ (.slice none 0 0)).cell? ⟨w.heap.size, 1, none⟩ = some (.slice none 0 0) := set_at (set_oth (by decide) v1)
            go_wp2_with fail
            first | (go_region_with (go_at_call 38; fail)) | fail
            all_goals
              go_wp2
              exact bodyPost_ret (v := .agg #[.int .i64 5, .slice none 0 0]) (by simp [results, Tryz.results16, go_sem, z0, z1]) rfl ⟨none, 0, 0, rfl, no_items _ _ _, below_drewN ((HB0.out.setCell (Nat.le_refl _) _).setCell (Nat.le_refl _) _) 1⟩
        · rw [hbt] at q2 OK
          obtain ⟨rfl, rfl⟩ := HC5.out (fun h => by have := (OK.out.1 h).1; cases this)
          have z0 : ((wr.setCell ⟨w.heap.size, 0, none⟩ (.int .i64 5)).setCell ⟨w.heap.size, 1, none⟩ (.slice none 0 0)).cell? ⟨w.heap.size, 0, none⟩ = some (.int .i64 5) := set_oth (by decide) (set_at v0)
          have z1 : ((wr.setCell ⟨w.heap.size, 0, none⟩ (.int .i64 5)).setCell ⟨w.heap.size, 1, none⟩ (.slice none 0 0)).cell? ⟨w.heap.size, 1, none⟩ = some (.slice none 0 0) := set_at (set_oth (by decide) v1)
          go_wp2_with fail
          first | (go_region_with (go_at_call 38; fail)) | fail
          all_goals
            go_wp2
            exact bodyPost_ret (v := .agg #[.int .i64 5, .slice none 0 0]) (by simp [results, Tryz.results16, go_sem, z0, z1]) rfl ⟨none, 0, 0, rfl, no_items _ _ _, below_drewN ((HB0.out.setCell (Nat.le_refl _) _).setCell (Nat.le_refl _) _) 1⟩
end Go.Proofs.YtbfjhjkllaceaaaGreatDoor

/- The laws' draws of elements. -/
namespace Go.Proofs.YtbfjhjkllaceaaaGreatDoor
open Go.ChangeShapes Go.WideShapes Go.ChangeAt Go.RowKit
set_option linter.unusedVariables false

/-- an element is drawn -/
def ElemDrawn (w : World) (b : Nat) (a : Option Addr) (n c : Nat) (xs : List Int) (k : Nat) (d : Int) (en : Ending) (w' : World) : Prop :=
  ∃ (sp nm : ByteArray) (x : Option Addr) (m q : Nat) (es : List At) (k' : Nat), en = .returned (.agg #[.int .i64 d, .string ⟨#[]⟩, .string sp, .string nm, .slice x m q]) ∧ sp.size ≤ 60 ∧ nm.size ≤ 60 ∧ OwnAts w' w.heap.size w'.heap.size x m q es ∧ m ≤ 5 ∧ ShortAts es ∧ (x = none → q = 0) ∧ w'.ownsRow w.heap.size 73 2 (.slice x m q) m (flatA es) ∧ k' ≤ k + 60 ∧ Src w' b a n c xs k' ∧ w.grownBy w' (some b)

theorem words5 {w : World} {nb k x : Nat} {f : Nat → ByteArray} (h : ∀ r, r < k → w.cell? ⟨nb, r, none⟩ = some (.string (f r))) (hne : nb ≠ x) (u0 u1 u2 u3 u4 : Value) :
    ∀ r, r < k → (((((w.setCell ⟨x, 0, none⟩ u0).setCell ⟨x, 1, none⟩ u1).setCell ⟨x, 2, none⟩ u2).setCell ⟨x, 3, none⟩ u3).setCell ⟨x, 4, none⟩ u4).cell? ⟨nb, r, none⟩ = some (.string (f r)) := by
  have key : ∀ (W : World) (i : Nat) (u : Value), (∀ r, r < k → W.cell? ⟨nb, r, none⟩ = some (.string (f r))) → ∀ r, r < k → (W.setCell ⟨x, i, none⟩ u).cell? ⟨nb, r, none⟩ = some (.string (f r)) :=
    fun W i u hW r hr => (World.cell?_setCell_other _ _ _ _ (fun e => hne (congrArg Addr.block e).symm)).trans (hW r hr)
  exact key _ _ _ (key _ _ _ (key _ _ _ (key _ _ _ (key _ _ _ h))))
theorem grown_fill {w w1 : World} {b x : Nat} (h : w.grownBy w1 (some b)) (hx : w.heap.size ≤ x) (u0 u1 u2 u3 u4 : Value) : w.grownBy (((((w1.setCell ⟨x, 0, none⟩ u0).setCell ⟨x, 1, none⟩ u1).setCell ⟨x, 2, none⟩ u2).setCell ⟨x, 3, none⟩ u3).setCell ⟨x, 4, none⟩ u4) (some b) := by
  have key : ∀ (W : World) (i : Nat) (u : Value), w.grownBy W (some b) → w.grownBy (W.setCell ⟨x, i, none⟩ u) (some b) := fun W i u hW => grown_mix hW (grown_set W ⟨x, i, none⟩ u) (fun g hg => by cases hg; exact hx)
  exact key _ _ _ (key _ _ _ (key _ _ _ (key _ _ _ (key _ _ _ h))))
theorem Src.fill {w : World} {b x : Nat} {a : Option Addr} {n c : Nat} {xs : List Int} {k : Nat} (h : Src w b a n c xs k) (hx : b < x) (u0 u1 u2 u3 u4 : Value) : Src (((((w.setCell ⟨x, 0, none⟩ u0).setCell ⟨x, 1, none⟩ u1).setCell ⟨x, 2, none⟩ u2).setCell ⟨x, 3, none⟩ u3).setCell ⟨x, 4, none⟩ u4) b a n c xs k := by
  have key : ∀ (W : World) (i : Nat) (u : Value), Src W b a n c xs k → Src (W.setCell ⟨x, i, none⟩ u) b a n c xs k := fun W i u hW => hW.grown (grown_set W ⟨x, i, none⟩ u) (fun j e => by cases e; exact hx)
  exact key _ _ _ (key _ _ _ (key _ _ _ (key _ _ _ (key _ _ _ h))))
theorem wordsG {w w' : World} {nb k : Nat} {f : Nat → ByteArray} {row : Option Nat} (h : ∀ r, r < k → w.cell? ⟨nb, r, none⟩ = some (.string (f r))) (hg : w.grownBy w' row) (hne : some nb ≠ row) : ∀ r, r < k → w'.cell? ⟨nb, r, none⟩ = some (.string (f r)) := fun r hr => hg.cell (h r hr) hne

set_option maxRecDepth 100000 in
set_option maxHeartbeats 6400000 in
theorem l4DrawElement_any (b : Nat) (a : Option Addr) (n c : Nat) (xs : List Int) (k : Nat) (d : Int) (hk : k + 200 < 1000000) (w : World) (h : Src w b a n c xs k) :
    Calls Tryz.prog 56 #[.pointer (some ⟨b, 0, none⟩), .int .i64 d] w (ElemDrawn w b a n c xs k d) := by
  unfold ElemDrawn
  have hblt := h.lt
  have HS0 := Lib.hid h
  have KN := Lib.hid (fun (k : Nat) (hk : k < 1000000) (W : World) (h : Src W b a n c xs k) => l1Next_any b a n c xs k 5 (by decide) (by decide) hk W h)
  unfold NextRes at KN
  have KA := Lib.hid (fun (k : Nat) (hk : k + 100 < 1000000) (W : World) (h : Src W b a n c xs k) => l4DrawAttrs_any b a n c xs k hk W h)
  unfold AttsDrawn at KA
  clear h
  go_enter Tryz.func56, Tryz.ntmps56
  go_wp2
  generalize hW : ((w.alloc (.cells #[.int .i64 0, .string ⟨#[]⟩, .string ⟨#[]⟩, .string ⟨#[]⟩, .slice none 0 0] 68)).alloc (.cells #[.string ⟨#[97]⟩, .string ⟨#[98]⟩, .string ⟨#[105, 116, 101, 109]⟩, .string ⟨#[120, 45, 121]⟩, .string ⟨#[113, 46, 49]⟩] 9)).alloc _ = W1
  obtain ⟨f, hf, hfs⟩ : ∃ f, WordsAt W1 (w.heap.size + 1) 5 f ∧ ∀ r, r < 5 → (f r).size ≤ 60 := by
    have hb : Below ((w.alloc (.cells #[.int .i64 0, .string ⟨#[]⟩, .string ⟨#[]⟩, .string ⟨#[]⟩, .slice none 0 0] 68)).alloc (.cells #[.string ⟨#[97]⟩, .string ⟨#[98]⟩, .string ⟨#[105, 116, 101, 109]⟩, .string ⟨#[120, 45, 121]⟩, .string ⟨#[113, 46, 49]⟩] 9)).heap.size ((w.alloc (.cells #[.int .i64 0, .string ⟨#[]⟩, .string ⟨#[]⟩, .string ⟨#[]⟩, .slice none 0 0] 68)).alloc (.cells #[.string ⟨#[97]⟩, .string ⟨#[98]⟩, .string ⟨#[105, 116, 101, 109]⟩, .string ⟨#[120, 45, 121]⟩, .string ⟨#[113, 46, 49]⟩] 9)) W1 := by rw [← hW]; exact below1 _ _
    have h := words_at hb 60 5 (by decide +kernel)
    have e : (w.alloc (.cells #[.int .i64 0, .string ⟨#[]⟩, .string ⟨#[]⟩, .string ⟨#[]⟩, .slice none 0 0] 68)).heap.size = w.heap.size + 1 := by simp
    rw [e] at h
    exact h
  obtain ⟨g, hg, hgs⟩ : ∃ g, WordsAt W1 (w.heap.size + 2) 5 g ∧ ∀ r, r < 5 → (g r).size ≤ 60 := by
    have hb : Below (((w.alloc (.cells #[.int .i64 0, .string ⟨#[]⟩, .string ⟨#[]⟩, .string ⟨#[]⟩, .slice none 0 0] 68)).alloc (.cells #[.string ⟨#[97]⟩, .string ⟨#[98]⟩, .string ⟨#[105, 116, 101, 109]⟩, .string ⟨#[120, 45, 121]⟩, .string ⟨#[113, 46, 49]⟩] 9)).alloc (.cells #[.string ⟨#[]⟩, .string ⟨#[117, 114, 110, 58, 97]⟩, .string ⟨#[117, 114, 110, 58, 98]⟩, .string ⟨#[117, 38, 118]⟩, .string ⟨#[117, 114, 110, 58, 97]⟩] 9)).heap.size (((w.alloc (.cells #[.int .i64 0, .string ⟨#[]⟩, .string ⟨#[]⟩, .string ⟨#[]⟩, .slice none 0 0] 68)).alloc (.cells #[.string ⟨#[97]⟩, .string ⟨#[98]⟩, .string ⟨#[105, 116, 101, 109]⟩, .string ⟨#[120, 45, 121]⟩, .string ⟨#[113, 46, 49]⟩] 9)).alloc (.cells #[.string ⟨#[]⟩, .string ⟨#[117, 114, 110, 58, 97]⟩, .string ⟨#[117, 114, 110, 58, 98]⟩, .string ⟨#[117, 38, 118]⟩, .string ⟨#[117, 114, 110, 58, 97]⟩] 9)) W1 := by rw [← hW]; exact Below.refl _ _
    have h := words_at hb 60 5 (by decide +kernel)
    have e : ((w.alloc (.cells #[.int .i64 0, .string ⟨#[]⟩, .string ⟨#[]⟩, .string ⟨#[]⟩, .slice none 0 0] 68)).alloc (.cells #[.string ⟨#[97]⟩, .string ⟨#[98]⟩, .string ⟨#[105, 116, 101, 109]⟩, .string ⟨#[120, 45, 121]⟩, .string ⟨#[113, 46, 49]⟩] 9)).heap.size = w.heap.size + 2 := by simp
    rw [e] at h
    exact h
  have hb1 : Below w.heap.size w W1 := by rw [← hW]; exact (below2 w _ _).trans ((below1 _ _).mono (by simp; omega))
  have X1 : X5 W1 w.heap.size (.int .i64 0) (.string ⟨#[]⟩) (.string ⟨#[]⟩) (.string ⟨#[]⟩) (.slice none 0 0) := by
    rw [← hW]
    exact ((X5.new w 68 _ _ _ _ _).grown (World.grownBy_alloc _ _ none) (by simp)).grown (World.grownBy_alloc _ _ none) (by simp)
  have hz1 : w.heap.size + 3 = W1.heap.size := by rw [← hW]; simp
  have HB1 := Lib.hid hb1
  have HX1 := Lib.hid X1
  have HSD := Lib.hid ((HS0.out.below hb1).below (Below.refl W1.heap.size W1).drew)
  have HFS := Lib.hid hfs
  have HGS := Lib.hid hgs
  have hS1 : (∀ r, r < 5 → W1.drew.cell? ⟨w.heap.size + 1, r, none⟩ = some (.string (f r))) ∧ (∀ r, r < 5 → W1.drew.cell? ⟨w.heap.size + 2, r, none⟩ = some (.string (g r))) := ⟨hf, hg⟩
  have hn1 : some (w.heap.size + 1) ≠ some b := by simp; omega
  have hn2 : some (w.heap.size + 2) ≠ some b := by simp; omega
  clear hW hf hg hfs hgs hb1 X1
  have HSW := Lib.hid hS1
  clear hS1
  first | (go_region_with (first
      | (go_at_call 31; (with_reducible refine (KN.out k (by omega) _ HSD.out).mono ?_); rintro e w5 ⟨r5, rfl, hr5, hs5, hg5⟩; have hr5 := hr5 (by decide); have hr5n : r5 < 5 := (by omega); have HS5 := Lib.hid (And.intro (wordsG HSW.out.1 hg5 hn1) (wordsG HSW.out.2 hg5 hn2)); have e5 := HS5.out.2 r5 hr5n)
      | (go_at_call 31; (with_reducible refine (KN.out (k + 1) (by omega) _ (by assumption)).mono ?_); rintro e w6 ⟨r6, rfl, hr6, hs6, hg6⟩; have hr6 := hr6 (by decide); have hr6n : r6 < 5 := (by omega); have HS6 := Lib.hid (And.intro (wordsG HS5.out.1 hg6 hn1) (wordsG HS5.out.2 hg6 hn2)); have e6 := HS6.out.2 r5 hr5n; have e6' := HS6.out.1 r6 hr6n)
      | (go_at_call 81; (with_reducible refine (KA.out (k + 1 + 1) (by omega) _ (by assumption)).mono ?_); rintro e w7 ⟨x7, m7, q7, es7, k7, rfl, hrow7, hm7, hlen7, hsh7, hnil7, hk7, hs7, hg7⟩; have e7 := (wordsG HS6.out.2 hg7 hn2) r5 hr5n; have e7' := (wordsG HS6.out.1 hg7 hn1) r6 hr6n; have hX7 := ((HX1.out.grown (grownDrew hg5) (by simp; omega)).grown hg6 (by simp; omega)).grown hg7 (by simp; omega); have y0 := hX7.c0; have y1 := hX7.c1; have y2 := hX7.c2; have y3 := hX7.c3; have y4 := hX7.c4; have yf0 := hX7.fz 0 (by decide); have yf1 := hX7.fz 1 (by decide); have yf2 := hX7.fz 2 (by decide); have yf3 := hX7.fz 3 (by decide); have yf4 := hX7.fz 4 (by decide)))) | fail
  all_goals
    have hgs5 := HGS.out r5 hr5n
    have hfs6 := HFS.out r6 hr6n
    have hw5 : W1.heap.size ≤ w5.heap.size := hg5.size
    have hw6 : w5.heap.size ≤ w6.heap.size := hg6.size
    have Z := hX7.fill (.int .i64 d) (.string ⟨#[]⟩) (.string (g r5)) (.string (f r6)) (.slice x7 m7 q7)
    have HRW := Lib.hid (owns_fill (owns_mono hrow7 (show w.heap.size ≤ w6.heap.size by omega)) w.heap.size (fun e => by have := (hrow7.lt _ e).1; omega) (.int .i64 d) (.string ⟨#[]⟩) (.string (g r5)) (.string (f r6)) (.slice x7 m7 q7))
    have HOW := Lib.hid (ownAts_of HRW.out (by omega) (fun i => by have := hsh7 i; omega))
    have HSF := Lib.hid (hs7.fill hblt (.int .i64 d) (.string ⟨#[]⟩) (.string (g r5)) (.string (f r6)) (.slice x7 m7 q7))
    have HGF := Lib.hid (grown_fill (grown_trans_row (grown_trans_row (grown_trans_row (grown_of_below HB1.out (some b)) (grownDrew hg5)) hg6) hg7) (Nat.le_refl _) (.int .i64 d) (.string ⟨#[]⟩) (.string (g r5)) (.string (f r6)) (.slice x7 m7 q7))
    have HSH := Lib.hid hsh7
    have HNL := Lib.hid hnil7
    generalize g r5 = sp at *
    generalize f r6 = nm at *
    have z0 := Z.c0
    have z1 := Z.c1
    have z2 := Z.c2
    have z3 := Z.c3
    have z4 := Z.c4
    clear Z e5 e6 e6' e7 e7' hrow7 hsh7 hnil7 hs5 hs6 hs7 hX7 hlen7
    go_wp2
    exact bodyPost_ret (v := .agg #[.int .i64 d, .string ⟨#[]⟩, .string sp, .string nm, .slice x7 m7 q7]) (by simp [results, Tryz.results56, go_sem, z0, z1, z2, z3, z4]) rfl
      ⟨sp, nm, x7, m7, q7, es7, k7, rfl, hgs5, hfs6, HOW.out, hm7, HSH.out, HNL.out, HRW.out, by omega, HSF.out, HGF.out⟩
end Go.Proofs.YtbfjhjkllaceaaaGreatDoor
