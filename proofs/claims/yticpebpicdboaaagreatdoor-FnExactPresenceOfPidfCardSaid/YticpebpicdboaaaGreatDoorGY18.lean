/- The kids by parents are those that stand one step deeper up to the item's end. -/
import Derived.Test.YticpebpicdboaaaGreatDoorGY17
import Derived.Test.YticpebpicdboaaaGreatDoorGY11
import Derived.Test.YticpebpicdboaaaGreatDoorGY0
import Derived.Deep.RegionLaw
import Derived.Deep.RegionHeld3
import Derived.Maps.AppendAt
import Derived.Test.YticpebpicdboaaaGreatDoorGY12
import Derived.Test.YticpebpicdboaaaGreatDoorGY13
namespace Go.Proofs.YticpebpicdboaaaGreatDoor
open Go.ChangeShapes Go.WideShapes Go.ChangeAt Go.RowKit
set_option linter.unusedVariables false

theorem endF_out (l : List It) (d : Int) : ∀ f j, endF l d f j = j + f ∨ ¬ d < (l.getD (endF l d f j) dIt).depth
  | 0, j => .inl rfl
  | f + 1, j => by
    by_cases h : d < (l.getD j dIt).depth
    · have e : endF l d (f + 1) j = endF l d f (j + 1) := by
        rw [endF, if_pos h]
      rw [e]
      rcases endF_out l d f (j + 1) with h1 | h1
      · left; omega
      · exact .inr h1
    · have e : endF l d (f + 1) j = j := by
        rw [endF, if_neg h]
      rw [e]
      exact .inr h
theorem endL_out {l : List It} {a : Nat} (h : a < l.length) : endL l a = l.length ∨ dp l (endL l a) ≤ dp l a := by
  rcases endF_out l (l.getD a dIt).depth (l.length - (a + 1)) (a + 1) with h1 | h1
  · left
    unfold endL
    omega
  · right
    unfold dp endL
    omega
theorem endL_in {l : List It} {a i : Nat} (h1 : a < i) (h2 : i < endL l a) : dp l a < dp l i := endF_in l _ _ _ i h1 h2
theorem lastAt_of {l : List It} {d : Int} {a : Nat} (hd : dp l a = d) : ∀ {m : Nat}, a < m → (∀ i, a < i → i < m → dp l i ≠ d) → lastAt l d m = some a
  | m + 1, hm, hn => by
    unfold lastAt
    by_cases e : a = m
    · subst e
      rw [if_pos hd]
    · rw [if_neg (hn m (by omega) (by omega))]
      exact lastAt_of hd (by omega) fun i h1 h2 => hn i h1 (by omega)
theorem low_till {l : List It} (h : Rises l) {E k : Nat} {d : Int} (hk : k < l.length) (hE : dp l E < d) (hne : ∀ i, E < i → i < k → dp l i ≠ d) : ∀ m, E + m < k → dp l (E + m) < d
  | 0, _ => hE
  | m + 1, hm => by
    have h1 := low_till h hk hE hne m (by omega)
    have h2 := (h.step (E + (m + 1)) (by omega) (by omega)).2
    rw [show E + (m + 1) - 1 = E + m from by omega] at h2
    have h3 := hne (E + (m + 1)) (by omega) hm
    omega
theorem kid_iff {l : List It} (h : Rises l) {a k : Nat} (ha : a < l.length) (hk : k < l.length) : kidB l a k = true ↔ a < k ∧ k < endL l a ∧ dp l k = dp l a + 1 := by
  have hb := endL_bounds ha
  unfold kidB
  rw [Bool.and_eq_true, decide_eq_true_iff, decide_eq_true_iff]
  constructor
  · rintro ⟨h0, hp⟩
    obtain ⟨h1, h2, h3⟩ := lastAt_is hp
    refine ⟨h1, ?_, by omega⟩
    refine Nat.lt_of_not_le fun hle => ?_
    rcases endL_out ha with h4 | h4
    · omega
    · rcases Nat.lt_or_ge (endL l a) k with g | g
      · have h5 := h3 (endL l a) (by omega) g
        have h6 : dp l (endL l a) < dp l a := by omega
        have h7 := low_till h hk h6 (fun i g1 g2 => by have := h3 i (by omega) g2; omega) (k - 1 - endL l a) (by omega)
        rw [show endL l a + (k - 1 - endL l a) = k - 1 from by omega] at h7
        have h8 := (h.step k (by omega) hk).2
        omega
      · have e : endL l a = k := by omega
        rw [e] at h4
        omega
  · rintro ⟨h1, h2, h3⟩
    refine ⟨by have := (h.bd a ha).1; omega, ?_⟩
    unfold parOf
    exact lastAt_of (by omega) h1 fun i g1 g2 => by have := endL_in g1 (show i < endL l a by omega); omega
/-- the kids by parents are the model's -/
theorem kids_same {l : List It} (h : Rises l) {a : Nat} (ha : a < l.length) : (kidsUp l l.length a).map (fun j => ((j : Nat) : Int)) = kidsL l a := by
  have hb := endL_bounds ha
  unfold kidsL kidsTo kidsUp
  congr 1
  have e : List.range l.length = List.range' 0 (a + 1) ++ (List.range' (a + 1) (endL l a - (a + 1)) ++ List.range' (endL l a) (l.length - endL l a)) := by
    have e1 := List.range'_append (s := a + 1) (m := endL l a - (a + 1)) (n := l.length - endL l a) (step := 1)
    have e2 := List.range'_append (s := 0) (m := a + 1) (n := l.length - (a + 1)) (step := 1)
    rw [show a + 1 + 1 * (endL l a - (a + 1)) = endL l a from by omega, show endL l a - (a + 1) + (l.length - endL l a) = l.length - (a + 1) from by omega] at e1
    rw [show 0 + 1 * (a + 1) = a + 1 from by omega, show a + 1 + (l.length - (a + 1)) = l.length from by omega] at e2
    rw [e1, e2, List.range_eq_range']
  rw [e, List.filter_append, List.filter_append]
  have f1 : (List.range' 0 (a + 1)).filter (kidB l a) = [] := by
    rw [List.filter_eq_nil_iff]
    intro k hk
    rw [List.mem_range'_1] at hk
    intro hkb
    have := (kid_iff h ha (by omega)).1 hkb
    omega
  have f3 : (List.range' (endL l a) (l.length - endL l a)).filter (kidB l a) = [] := by
    rw [List.filter_eq_nil_iff]
    intro k hk
    rw [List.mem_range'_1] at hk
    intro hkb
    have := (kid_iff h ha (by omega)).1 hkb
    omega
  rw [f1, f3, List.nil_append, List.append_nil]
  apply List.filter_congr
  intro k hk
  rw [List.mem_range'_1] at hk
  have hi := kid_iff h ha (k := k) (by omega)
  have hd : ((l.getD k dIt).depth == (l.getD a dIt).depth + 1) = decide (dp l k = dp l a + 1) := by
    unfold dp
    rw [Bool.eq_iff_iff, beq_iff_eq, decide_eq_true_iff]
  rw [hd, Bool.eq_iff_iff, hi, decide_eq_true_iff]
  constructor
  · rintro ⟨_, _, h3⟩
    exact h3
  · intro h3
    exact ⟨by omega, by omega, h3⟩
end Go.Proofs.YticpebpicdboaaaGreatDoor

/- A tree laid flat by its kids is the part of the row up to its end. -/
namespace Go.Proofs.YticpebpicdboaaaGreatDoor
open Go.ChangeShapes Go.WideShapes Go.ChangeAt Go.RowKit
set_option linter.unusedVariables false

theorem kids_at {l : List It} {a n x : Nat} (hx : x < n) (h : kidB l a x = true) : (kidsUp l x a).length < (kidsUp l n a).length ∧ (kidsUp l n a).getD (kidsUp l x a).length 0 = x := by
  have e : List.range n = List.range x ++ (x :: List.range' (x + 1) (n - x - 1)) := by
    have e1 := List.range'_append (s := 0) (m := x) (n := n - x) (step := 1)
    rw [show 0 + 1 * x = x from by omega, show x + (n - x) = n from by omega] at e1
    have e2 : List.range' x (n - x) = x :: List.range' (x + 1) (n - x - 1) := by
      conv => lhs; rw [show n - x = (n - x - 1) + 1 from by omega]
      rw [List.range'_succ]
    rw [List.range_eq_range', List.range_eq_range', ← e1, e2]
  have e3 : kidsUp l n a = kidsUp l x a ++ (x :: (List.range' (x + 1) (n - x - 1)).filter (kidB l a)) := by
    unfold kidsUp
    rw [e, List.filter_append, List.filter_cons, if_pos h]
  rw [e3]
  refine ⟨by simp, ?_⟩
  rw [List.getD_eq_getElem?_getD, List.getElem?_append_right (Nat.le_refl _), Nat.sub_self]
  rfl
theorem kids_next {l : List It} {a x : Nat} (h : kidB l a x = true) : ∀ (m : Nat), (∀ i, x < i → i < x + 1 + m → kidB l a i = false) → (kidsUp l (x + 1 + m) a).length = (kidsUp l x a).length + 1
  | 0, _ => by rw [Nat.add_zero, kidsUp_succ, if_pos h]; simp
  | m + 1, hn => by
    have h1 := kids_next h m (fun i g1 g2 => hn i g1 (by omega))
    rw [show x + 1 + (m + 1) = (x + 1 + m) + 1 from by omega, kidsUp_succ, if_neg (by rw [hn (x + 1 + m) (by omega) (by omega)]; simp), List.append_nil]
    exact h1
theorem kids_stop {l : List It} {a x : Nat} : ∀ (m : Nat), (∀ i, x ≤ i → i < x + m → kidB l a i = false) → kidsUp l (x + m) a = kidsUp l x a
  | 0, _ => rfl
  | m + 1, hn => by
    rw [show x + (m + 1) = (x + m) + 1 from by omega, kidsUp_succ, if_neg (by rw [hn (x + m) (by omega) (by omega)]; simp), List.append_nil]
    exact kids_stop m (fun i g1 g2 => hn i g1 (by omega))
theorem kids_zero {l : List It} (h : Rises l) {a : Nat} (ha : a < l.length) : kidsUp l (a + 1) a = [] := by
  have hn : ∀ i, 0 ≤ i → i < 0 + (a + 1) → kidB l a i = false := fun i _ hi => by
    rw [← Bool.not_eq_true]
    intro hk
    have := (kid_iff h ha (k := i) (by omega)).1 hk
    omega
  have := kids_stop (a + 1) hn
  rw [Nat.zero_add] at this
  rw [this]
  rfl
theorem kids_all {l : List It} (h : Rises l) {a : Nat} (ha : a < l.length) : kidsUp l l.length a = kidsUp l (endL l a) a := by
  have hb := endL_bounds ha
  have := kids_stop (l := l) (a := a) (x := endL l a) (l.length - endL l a) (fun i g1 g2 => by
    rw [← Bool.not_eq_true]
    intro hk
    have := (kid_iff h ha (k := i) (by omega)).1 hk
    omega)
  rwa [show endL l a + (l.length - endL l a) = l.length from by omega] at this
theorem kid_pos0 {l : List It} (h : Rises l) {a : Nat} (ha : a < l.length) : a + 1 = endL l a ∨ kidB l a (a + 1) = true := by
  have hb := endL_bounds ha
  by_cases e : a + 1 = endL l a
  · exact .inl e
  · right
    have h1 := endL_in (l := l) (a := a) (i := a + 1) (by omega) (by omega)
    have h2 := (h.step (a + 1) (by omega) (by omega)).2
    rw [Nat.add_sub_cancel] at h2
    exact (kid_iff h ha (by omega)).2 ⟨by omega, by omega, by omega⟩
theorem kid_pos1 {l : List It} (h : Rises l) {a x : Nat} (ha : a < l.length) (hx : x < l.length) (hk : kidB l a x = true) :
    x + 1 ≤ endL l x ∧ endL l x ≤ endL l a ∧ (endL l x = endL l a ∨ kidB l a (endL l x) = true) ∧ (∀ i, x < i → i < endL l x → kidB l a i = false) ∧ dp l x = dp l a + 1 ∧ a < x := by
  have hb := endL_bounds ha
  have hbx := endL_bounds hx
  obtain ⟨h1, h2, h3⟩ := (kid_iff h ha hx).1 hk
  have hle : endL l x ≤ endL l a := by
    refine Nat.le_of_not_lt fun hlt => ?_
    have h4 := endL_in (l := l) (a := x) (i := endL l a) h2 hlt
    rcases endL_out ha with h5 | h5
    · omega
    · omega
  refine ⟨hbx.1, hle, ?_, fun i g1 g2 => ?_, h3, h1⟩
  · by_cases e : endL l x = endL l a
    · exact .inl e
    · right
      have h4 := endL_in (l := l) (a := a) (i := endL l x) (by omega) (by omega)
      rcases endL_out hx with h5 | h5
      · omega
      · exact (kid_iff h ha (by omega)).2 ⟨by omega, by omega, by omega⟩
  · rw [← Bool.not_eq_true]
    intro hk2
    have h4 := endL_in (l := l) (a := x) (i := i) g1 g2
    have h5 := (kid_iff h ha (k := i) (by omega)).1 hk2
    omega
theorem kids_count {l : List It} (h : Rises l) {a x : Nat} (ha : a < l.length) (hx : x < l.length) (hk : kidB l a x = true) : (kidsUp l (endL l x) a).length = (kidsUp l x a).length + 1 := by
  obtain ⟨h1, _, _, h4, _, _⟩ := kid_pos1 h ha hx hk
  have := kids_next hk (endL l x - (x + 1)) (fun i g1 g2 => h4 i g1 (by omega))
  rwa [show x + 1 + (endL l x - (x + 1)) = endL l x from by omega] at this
/-- j kids of k stand ahead of x, which is the next one, or the end -/
def LaidSt (l : List It) (k j x : Nat) : Prop := j = (kidsUp l x k).length ∧ k + 1 ≤ x ∧ x ≤ endL l k ∧ (x = endL l k ∨ kidB l k x = true)
theorem laid_start {l : List It} (h : Rises l) {k : Nat} (hk : k < l.length) : LaidSt l k 0 (k + 1) :=
  ⟨by rw [kids_zero h hk]; rfl, Nat.le_refl _, (endL_bounds hk).1, kid_pos0 h hk⟩
theorem laid_more {l : List It} (h : Rises l) {k j x : Nat} (hk : k < l.length) (hs : LaidSt l k j x) (hj : j < (kidsUp l l.length k).length) :
    x < endL l k ∧ x < l.length ∧ kidB l k x = true ∧ (kidsUp l l.length k).getD j 0 = x ∧ LaidSt l k (j + 1) (endL l x) ∧ dp l x = dp l k + 1 ∧ x ≤ endL l x ∧ endL l x ≤ endL l k ∧ k + 1 ≤ x := by
  obtain ⟨h1, h2, h3, h4⟩ := hs
  have hb := endL_bounds hk
  have hne : x ≠ endL l k := fun e => by
    rw [e, ← kids_all h hk] at h1
    omega
  have hx : x < l.length := by omega
  have hkb := h4.resolve_left hne
  obtain ⟨g1, g2, g3, g4, g5, g6⟩ := kid_pos1 h hk hx hkb
  refine ⟨by omega, hx, hkb, ?_, ⟨?_, by omega, g2, g3⟩, g5, by omega, g2, h2⟩
  · rw [h1]
    exact (kids_at hx hkb).2
  · rw [kids_count h hk hx hkb, h1]
theorem laid_last {l : List It} (h : Rises l) {k j x : Nat} (hk : k < l.length) (hs : LaidSt l k j x) (hj : ¬ j < (kidsUp l l.length k).length) : x = endL l k := by
  obtain ⟨h1, h2, h3, h4⟩ := hs
  have hb := endL_bounds hk
  by_cases e : x = endL l k
  · exact e
  · have := (kids_at (n := l.length) (by omega) (h4.resolve_left e)).1
    omega
theorem movedTo_app (l : List It) {f k : Nat} (h : f ≤ k) (by_ : Int) : ∀ m, movedTo l f k by_ ++ movedTo l k (k + m) by_ = movedTo l f (k + m) by_
  | 0 => by
    have e : movedTo l k (k + 0) by_ = [] := by simp [movedTo]
    rw [e, List.append_nil, Nat.add_zero]
  | m + 1 => by
    rw [show k + (m + 1) = (k + m) + 1 from by omega, movedTo_step l (by omega), movedTo_step l (by omega), ← List.append_assoc, movedTo_app l h by_ m]
theorem movedTo_join (l : List It) {f k e : Nat} (h : f ≤ k) (h2 : k ≤ e) (by_ : Int) : movedTo l f k by_ ++ movedTo l k e by_ = movedTo l f e by_ := by
  have := movedTo_app l h by_ (e - k)
  rwa [show k + (e - k) = e from by omega] at this
end Go.Proofs.YticpebpicdboaaaGreatDoor

/- An append to a row of the call's own, as one step of a region that draws its order. -/
namespace Go.Proofs.YticpebpicdboaaaGreatDoor
open Go.ChangeShapes Go.WideShapes Go.ChangeAt Go.RowKit
set_option linter.unusedVariables false

theorem step_own {P : Program} {ops : Array Oper} {o : Oper} {a : Act} {w : World} {K : Act → World → Prop} {Q : Exit → Act → World → Prop} {E : Prop} (hw : Region.wanted o (yielded ops a.tmps) = true) (s x : Operand) (t : TypeId)
    (ho : o.op = .call { callee := .builtin .append, args := #[s, x], argTypes := #[t, t] })
    (e : TypeId) (i : TypeInfo) (z : Value) (size bytes : Nat) (ht : P.underlying t = some (.slice e)) (hi : P.info? e = some i) (hz : i.zero = some z) (hsize : i.size = size) (hby : i.bytes = bytes) (hzc : z.cells.size = size) (hpos : 0 < size)
    (base : Nat) (v : Value) (n : Nat) (xs : List Value) (hs : a.eval s = v) (hown : w.ownsRow base e size v n xs)
    (ad : Addr) (m c : Nat) (ys : List Value) (hx : a.eval x = .slice (some ad) m c) (hn : ys.length = m * size) (hcells : ∀ j u, ys[j]? = some u → w.cell? (ad.add j) = some u) (h1c : ∀ u ∈ ys, u.oneCell' = true)
    (b1 : n + m ≤ maxLen) (b2 : (n + m) * bytes ≤ 140737488355328) (hbase : base ≤ w.heap.size)
    (h : ∀ v' w', w'.ownsRow base e size v' (n + m) (xs ++ ys) → w.grownBy w' v.ownBlock → K (a.put o.dst v') w') :
    if Region.wanted o (yielded ops a.tmps) = true then Oper.wp P o a w K Q else E := by
  rw [if_pos hw]
  refine wp_append_own w s x t ho base e i _ size bytes ht hi hz hsize hby hzc hpos v n xs (by rw [hs]) hown ad m c ys hx hn hcells h1c b1 b2 hbase ?_
  intro v' w' hown' hgrow hnil
  exact h v' w' hown' hgrow
theorem step_own_at {P : Program} {ops : Array Oper} {o : Oper} {a : Act} {w : World} {K : Act → World → Prop} {Q : Exit → Act → World → Prop} {E : Prop} (hw : Region.wanted o (yielded ops a.tmps) = true) (s x : Operand) (t : TypeId)
    (ho : o.op = .call { callee := .builtin .append, args := #[s, x], argTypes := #[t, t] })
    (e : TypeId) (i : TypeInfo) (z : Value) (size bytes : Nat) (ht : P.underlying t = some (.slice e)) (hi : P.info? e = some i) (hz : i.zero = some z) (hsize : i.size = size) (hby : i.bytes = bytes) (hzc : z.cells.size = size) (hpos : 0 < size)
    (base : Nat) (v : Value) (n : Nat) (xs : List Value) (hs : a.eval s = v) (hown : w.ownsRow base e size v n xs)
    (ad : Addr) (m c : Nat) (ys : List Value) (hx : a.eval x = .slice (some ad) m c) (hn : ys.length = m * size) (hcells : ∀ j u, ys[j]? = some u → w.cell? (ad.add j) = some u) (h1c : ∀ u ∈ ys, u.oneCell' = true)
    (b1 : n + m ≤ maxLen) (b2 : (n + m) * bytes ≤ 140737488355328) (hbase : base ≤ w.heap.size)
    (h : ∀ v' w', w'.ownsRow base e size v' (n + m) (xs ++ ys) → w.grownBy w' v.ownBlock → (v'.ownBlock = v.ownBlock ∨ v'.ownBlock = some w.heap.size) → K (a.put o.dst v') w') :
    if Region.wanted o (yielded ops a.tmps) = true then Oper.wp P o a w K Q else E := by
  rw [if_pos hw]
  obtain ⟨v', w', hr, h2, h3, h4, h5⟩ := run_append_own_at (P := P) w base t o.type e i z size bytes ht hi hz hsize hby hzc hpos v n xs hown ad m c ys hn hcells h1c b1 b2 hbase
  unfold Oper.wp execOp
  simp only [ho, resolve, invoke, builtin, Sem.run_bind, Sem.run_pure, Result.andThen_ok, List.map_toArray, List.map_cons, List.map_nil, hs, hx, hr]
  exact h v' w' h2 h3 h5
end Go.Proofs.YticpebpicdboaaaGreatDoor

/- The model's l6Has. -/
namespace Go.Proofs.YticpebpicdboaaaGreatDoor
open Go.ChangeShapes Go.WideShapes Go.ChangeAt Go.RowKit
set_option linter.unusedVariables false

/-- the place of a text among texts, or -1 -/
def hasIx (ts : List ByteArray) (t : ByteArray) : Int := if ts.findIdx (fun x => x.toList == t.toList) < ts.length then (ts.findIdx (fun x => x.toList == t.toList) : Int) else -1
theorem hasIx_bd (ts : List ByteArray) (t : ByteArray) : -1 ≤ hasIx ts t ∧ hasIx ts t < ts.length := by
  unfold hasIx
  split <;> omega
/-- texts with one more, if it is not among them -/
def addT (ts : List ByteArray) (t : ByteArray) : List ByteArray := if 0 ≤ hasIx ts t then ts else ts ++ [t]
theorem addT_length (ts : List ByteArray) (t : ByteArray) : (addT ts t).length ≤ ts.length + 1 := by
  unfold addT
  split <;> simp

set_option maxHeartbeats 1600000 in
theorem l6Has_any (v : Value) (ts : List ByteArray) (t : ByteArray) (w : World) (h : RowS w v ts) :
    Calls Tryz.prog 161 #[v, .string t] w fun e w' => e = .returned (.int .i64 (hasIx ts t)) ∧ ∃ n, w' = w.drewN n := by
  have hle := List.findIdx_le_length (xs := ts) (p := fun x => x.toList == t.toList)
  have hat : ∀ h : ts.findIdx (fun x => x.toList == t.toList) < ts.length, ((ts.getD (ts.findIdx (fun x => x.toList == t.toList)) ByteArray.empty).toList == t.toList) = true := fun h => by
    have := List.findIdx_getElem (xs := ts) (p := fun x => x.toList == t.toList) (w := h)
    rw [List.getD_eq_getElem?_getD, List.getElem?_eq_getElem h]
    exact this
  have hlt : ∀ j, j < ts.findIdx (fun x => x.toList == t.toList) → j < ts.length → ((ts.getD j ByteArray.empty).toList == t.toList) = false := fun j hj hl => by
    have := List.not_of_lt_findIdx (xs := ts) (p := fun x => x.toList == t.toList) hj
    rw [List.getD_eq_getElem?_getD, List.getElem?_eq_getElem hl]
    simpa using this
  unfold hasIx
  generalize hm : ts.findIdx (fun x => x.toList == t.toList) = m at hle hat hlt ⊢
  generalize hr : (if m < ts.length then (m : Int) else -1) = r
  have HR := Lib.hid hr
  have HAT := Lib.hid hat
  have HLT := Lib.hid hlt
  clear hr hat hlt hm
  rcases h with ⟨rfl, rfl⟩ | ⟨b, o, cap, rfl, hc, hmx, hb, hx⟩
  · have hr : r = -1 := by rw [← HR.out]; simp
    subst hr
    go_enter Tryz.func161, Tryz.ntmps161
    go_wp2
    go_loop [8] (fun i => i = .int .i64 0) (fun _ => 0)
    case atStart => rfl
    case round =>
      subst hrel
      go_wp2
      go_ret
      exact ⟨rfl, 0, rfl⟩
  · have HX := Lib.hid hx
    unfold maxLen at hmx
    clear hx
    go_enter Tryz.func161, Tryz.ntmps161
    go_wp2
    go_loopw [8] (fun i wr => ∃ k : Nat, k ≤ m ∧ i = .int .i64 k ∧ ∃ n, wr = w.drewN n) (fun i _ => ts.length - (intOf i).toNat)
    case atStart => exact ⟨0, Nat.zero_le _, rfl, 0, rfl⟩
    case round =>
      obtain ⟨k, hk, rfl, nd, rfl⟩ := hrel
      by_cases hkl : k < ts.length
      · have d1 := HX.out k hkl
        have k1 : (k : Int) < (ts.length : Int) := by omega
        by_cases hkm : k < m
        · have he := HLT.out k hkm hkl
          generalize ts.getD k ByteArray.empty = x at d1 he
          go_wp2
          go_roundw
          case rel => exact ⟨k + 1, by omega, by go_num, _, rfl⟩
          case measure => simp [intOf]; omega
        · obtain rfl : k = m := by omega
          have he := HAT.out hkl
          have hr : r = (k : Int) := by rw [← HR.out, if_pos hkl]
          subst hr
          generalize ts.getD k ByteArray.empty = x at d1 he
          go_wp2
          go_ret
          exact ⟨rfl, _, rfl⟩
      · have hr : r = -1 := by rw [← HR.out, if_neg (by omega)]
        subst hr
        obtain rfl : k = ts.length := by omega
        go_wp2
        go_ret
        exact ⟨rfl, _, rfl⟩

theorem hasIx_pos {ts : List ByteArray} {t : ByteArray} (h : 0 ≤ hasIx ts t) : addT ts t = ts := by unfold addT; rw [if_pos h]
theorem hasIx_neg {ts : List ByteArray} {t : ByteArray} (h : ¬ 0 ≤ hasIx ts t) : addT ts t = ts ++ [t] := by unfold addT; rw [if_neg h]
end Go.Proofs.YticpebpicdboaaaGreatDoor

/- What a tree says as a stanza, in plain words: the root, its parts, the presence (for spec.l7Root, l7Part, l7Presence and the program's readings). -/
namespace Go.Proofs.YticpebpicdboaaaGreatDoor
open Go.ChangeShapes Go.WideShapes Go.ChangeAt Go.RowKit
set_option linter.unusedVariables false

/-- a presence of which nothing is said -/
def dPr : Pr := ⟨0, ByteArray.empty, ByteArray.empty, 0, ByteArray.empty, 0, []⟩
/-- what one attribute of the root says -/
def rootOne (x : At) (p : Pr) : Option Pr :=
  if x.name.toList = fromT.toList then some { p with sender := x.value }
  else if x.name.toList = toT.toList then some { p with goal := x.value }
  else if x.name.toList = typeT.toList then (if hasIx kindWs x.value < 1 then none else some { p with kind := hasIx kindWs x.value })
  else none
def rootF (l : List At) : Nat → Nat → Pr → Option Pr
  | 0, _, p => some p
  | f + 1, i, p => match rootOne (l.getD i dAt) p with | some q => rootF l f (i + 1) q | none => none
/-- what the root says -/
def rootP (x : It) (p : Pr) : Option Pr :=
  if x.name.toList = prT.toList ∧ x.space.toList = csL then rootF x.attrs x.attrs.length 0 p else none
/-- what a child of the client's space says -/
def partP (l : List It) (i : Nat) (p : Pr) : Option Pr :=
  match textL l i with
  | none => none
  | some t =>
    if (l.getD i dIt).attrs.length ≠ 0 then none
    else if (l.getD i dIt).name.toList = showNm.toList then (if hasIx showWs t < 1 then none else some { p with shown := hasIx showWs t })
    else if (l.getD i dIt).name.toList = statusNm.toList then some { p with status := t }
    else if (l.getD i dIt).name.toList = prioNm.toList then (match numOf t.toList with | some n => some { p with prio := n } | none => none)
    else none
/-- one child more: what is seen of names, and the presence so far -/
def kidOne (l : List It) (i : Nat) (s : List ByteArray × Pr) : Option (List ByteArray × Pr) :=
  if (l.getD i dIt).name.toList.isEmpty then none
  else if (l.getD i dIt).space.toList ≠ csL then some (s.1, { s.2 with more := s.2.more ++ movedTo l i (endL l i) (-1) })
  else if 0 ≤ hasIx s.1 (l.getD i dIt).name then none
  else match partP l i s.2 with | some q => some (s.1 ++ [(l.getD i dIt).name], q) | none => none
def kidsF (l : List It) (ks : List Int) : Nat → Nat → List ByteArray × Pr → Option Pr
  | 0, _, s => some s.2
  | f + 1, j, s => match kidOne l (ks.getD j 0).toNat s with | some t => kidsF l ks f (j + 1) t | none => none
/-- the presence that a tree says -/
def readP (l : List It) : Option Pr := match rootP (l.getD 0 dIt) dPr with | some p => kidsF l (kidsL l 0) (kidsL l 0).length 0 ([], p) | none => none

theorem rootF_step {l : List At} {f i : Nat} {p q : Pr} (h : rootOne (l.getD i dAt) p = some q) : rootF l (f + 1) i p = rootF l f (i + 1) q := by
  simp only [rootF, h]
theorem rootF_stop {l : List At} {f i : Nat} {p : Pr} (h : rootOne (l.getD i dAt) p = none) : rootF l (f + 1) i p = none := by
  simp only [rootF, h]
theorem kidsF_step {l : List It} {ks : List Int} {f j : Nat} {s t : List ByteArray × Pr} (h : kidOne l (ks.getD j 0).toNat s = some t) : kidsF l ks (f + 1) j s = kidsF l ks f (j + 1) t := by
  simp only [kidsF, h]
theorem kidsF_stop {l : List It} {ks : List Int} {f j : Nat} {s : List ByteArray × Pr} (h : kidOne l (ks.getD j 0).toNat s = none) : kidsF l ks (f + 1) j s = none := by
  simp only [kidsF, h]
/-- the root leaves what is said of other things -/
theorem rootOne_rest {x : At} {p q : Pr} (h : rootOne x p = some q) : q.shown = p.shown ∧ q.status = p.status ∧ q.prio = p.prio ∧ q.more = p.more := by
  unfold rootOne at h
  split at h
  · cases h; exact ⟨rfl, rfl, rfl, rfl⟩
  · split at h
    · cases h; exact ⟨rfl, rfl, rfl, rfl⟩
    · split at h
      · split at h
        · cases h
        · cases h; exact ⟨rfl, rfl, rfl, rfl⟩
      · cases h
theorem rootF_rest {l : List At} : ∀ {f i : Nat} {p q : Pr}, rootF l f i p = some q → q.shown = p.shown ∧ q.status = p.status ∧ q.prio = p.prio ∧ q.more = p.more
  | 0, i, p, q, h => by cases h; exact ⟨rfl, rfl, rfl, rfl⟩
  | f + 1, i, p, q, h => by
    cases h1 : rootOne (l.getD i dAt) p with
    | none => rw [rootF_stop h1] at h; cases h
    | some r =>
      rw [rootF_step h1] at h
      obtain ⟨a1, a2, a3, a4⟩ := rootF_rest h
      obtain ⟨b1, b2, b3, b4⟩ := rootOne_rest h1
      exact ⟨a1.trans b1, a2.trans b2, a3.trans b3, a4.trans b4⟩
theorem kinds_index (t : ByteArray) : -1 ≤ hasIx kindWs t ∧ hasIx kindWs t < 7 := hasIx_bd kindWs t
theorem shows_index (t : ByteArray) : -1 ≤ hasIx showWs t ∧ hasIx showWs t < 5 := hasIx_bd showWs t
end Go.Proofs.YticpebpicdboaaaGreatDoor
