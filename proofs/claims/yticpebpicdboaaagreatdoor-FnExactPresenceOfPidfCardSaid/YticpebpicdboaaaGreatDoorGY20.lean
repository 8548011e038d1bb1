/- The program's nodes: how they lie in memory. -/
import Derived.Test.YticpebpicdboaaaGreatDoorGY17
import Derived.Test.YticpebpicdboaaaGreatDoorGY10
import Derived.Test.YticpebpicdboaaaGreatDoorGY11
import Derived.Maps.AppendAt
namespace Go.Proofs.YticpebpicdboaaaGreatDoor
open Go.ChangeShapes Go.WideShapes Go.ChangeAt Go.RowKit
set_option linter.unusedVariables false

def ptrN (k : Nat) : Value := .pointer (some ⟨k, 0, none⟩)
def ptrO (nb : Nat → Nat) (o : Option Nat) : Value := .pointer (o.map fun j => ⟨nb j, 0, none⟩)
/-- what a node's part is -/
def partV (bi oi : Nat) (x : It) (j : Nat) : Value := .iface (if x.name.toList.isEmpty then 151 else 152) (.agg #[.pointer (some ⟨bi, oi + j * 5, none⟩)])
def rowN (nb : Nat → Nat) (ks : List Nat) : List Value := ks.map fun k => ptrN (nb k)
/-- m nodes behind B, of the items at bi, oi; K tells who is in whom -/
structure Nodes (w : World) (B bi oi : Nat) (l : List It) (m : Nat) (nb : Nat → Nat) (KA : Nat → Option Addr) (KN KC : Nat → Nat) (K : Nat → List Nat) : Prop where
  lt : ∀ j, j < m → B ≤ nb j ∧ nb j < w.heap.size
  c0 : ∀ j, j < m → w.cell? ⟨nb j, 0, none⟩ = some (partV bi oi (l.getD j dIt) j)
  c1 : ∀ j, j < m → w.cell? ⟨nb j, 1, none⟩ = some (.int .i64 (j : Int))
  c2 : ∀ j, j < m → w.cell? ⟨nb j, 2, none⟩ = some (.slice (KA j) (KN j) (KC j))
  f2 : ∀ j, j < m → w.frozen? ⟨nb j, 2, none⟩ = false
  row : ∀ j, j < m → w.ownsRow B 163 1 (.slice (KA j) (KN j) (KC j)) (KN j) (rowN nb (K j))
  kid : ∀ j, j < m → ∀ k ∈ K j, k < m
  one : ∀ i j, i < m → j < m → i ≠ j → nb i ≠ nb j
  off : ∀ i j, i < m → j < m → (Value.slice (KA i) (KN i) (KC i)).ownBlock ≠ some (nb j)
  each : ∀ i j, i < m → j < m → i ≠ j → ∀ g, (Value.slice (KA i) (KN i) (KC i)).ownBlock = some g → (Value.slice (KA j) (KN j) (KC j)).ownBlock ≠ some g
theorem rowN_len (nb : Nat → Nat) (ks : List Nat) : (rowN nb ks).length = ks.length := by simp [rowN]
theorem rowN_congr {nb nb' : Nat → Nat} {ks : List Nat} (h : ∀ k ∈ ks, nb k = nb' k) : rowN nb ks = rowN nb' ks := by
  unfold rowN
  exact List.map_congr_left fun k hk => by rw [h k hk]
section
variable {w w' : World} {B bi oi : Nat} {l : List It} {m : Nat} {nb : Nat → Nat} {KA : Nat → Option Addr} {KN KC : Nat → Nat} {K : Nat → List Nat}
theorem Nodes.below (h : Nodes w B bi oi l m nb KA KN KC K) (hb : Below w.heap.size w w') : Nodes w' B bi oi l m nb KA KN KC K :=
  ⟨fun j hj => ⟨(h.lt j hj).1, Nat.lt_of_lt_of_le (h.lt j hj).2 hb.size⟩, fun j hj => (hb.cell (by exact (h.lt j hj).2)).trans (h.c0 j hj), fun j hj => (hb.cell (by exact (h.lt j hj).2)).trans (h.c1 j hj), fun j hj => (hb.cell (by exact (h.lt j hj).2)).trans (h.c2 j hj), fun j hj => (hb.frozen (by exact (h.lt j hj).2)).trans (h.f2 j hj), fun j hj => owns_below (h.row j hj) hb, h.kid, h.one, h.off, h.each⟩
/-- an own row is kept over what is written elsewhere -/
theorem owns_only {P : Nat → Prop} {base : Nat} {e : TypeId} {size : Nat} {v : Value} {n : Nat} {xs : List Value} (h : w.ownsRow base e size v n xs) (ho : Only P w w') (hn : ∀ g, v.ownBlock = some g → ¬ P g) : w'.ownsRow base e size v n xs := by
  refine ⟨h.1, ?_⟩
  rcases h.2 with h2 | ⟨g, cap, cur, hv, hg, hh, r⟩
  · exact .inl h2
  · have hlt : g < w.heap.size := (h.lt g (by rw [hv]; rfl)).2
    exact .inr ⟨g, cap, cur, hv, hg, by rw [ho.block g hlt (hn g (by rw [hv]; rfl))]; exact hh, r⟩
theorem Nodes.only {P : Nat → Prop} (h : Nodes w B bi oi l m nb KA KN KC K) (ho : Only P w w') (hP : ∀ i, B ≤ i → ¬ P i) : Nodes w' B bi oi l m nb KA KN KC K :=
  ⟨fun j hj => ⟨(h.lt j hj).1, Nat.lt_of_lt_of_le (h.lt j hj).2 ho.size⟩, fun j hj => (ho.cell (p := ⟨nb j, 0, none⟩) (h.lt j hj).2 (hP _ (h.lt j hj).1)).trans (h.c0 j hj), fun j hj => (ho.cell (p := ⟨nb j, 1, none⟩) (h.lt j hj).2 (hP _ (h.lt j hj).1)).trans (h.c1 j hj), fun j hj => (ho.cell (p := ⟨nb j, 2, none⟩) (h.lt j hj).2 (hP _ (h.lt j hj).1)).trans (h.c2 j hj), fun j hj => (ho.frozen (p := ⟨nb j, 2, none⟩) (h.lt j hj).2 (hP _ (h.lt j hj).1)).trans (h.f2 j hj), fun j hj => owns_only (h.row j hj) ho fun g hg => hP g ((h.row j hj).lt g hg).1, h.kid, h.one, h.off, h.each⟩
theorem Nodes.congr {K' : Nat → List Nat} (h : Nodes w B bi oi l m nb KA KN KC K) (hk : ∀ j, j < m → K j = K' j) : Nodes w B bi oi l m nb KA KN KC K' :=
  ⟨h.lt, h.c0, h.c1, h.c2, h.f2, fun j hj => by rw [← hk j hj]; exact h.row j hj, fun j hj => by rw [← hk j hj]; exact h.kid j hj, h.one, h.off, h.each⟩
theorem putA_at {α : Type} (n : Nat) (a : α) (A : Nat → α) : putA n a A n = a := by unfold putA; rw [if_pos rfl]
theorem putA_ne {α : Type} {n i : Nat} (a : α) (A : Nat → α) (h : i ≠ n) : putA n a A i = A i := by unfold putA; rw [if_neg h]
/-- one node more, in which there is none -/
theorem Nodes.add (h : Nodes w B bi oi l m nb KA KN KC K) (hB : B ≤ w.heap.size) (t : TypeId) :
    Nodes (w.alloc (.cells #[partV bi oi (l.getD m dIt) m, .int .i64 (m : Int), .slice none 0 0] t)) B bi oi l (m + 1) (putA m w.heap.size nb) (putA m none KA) (putA m 0 KN) (putA m 0 KC) (putA m [] K) := by
  have h1 := h.below (below1 w (.cells #[partV bi oi (l.getD m dIt) m, .int .i64 (m : Int), .slice none 0 0] t))
  have hc : ∀ j, j < m + 1 → j = m ∨ (j ≠ m ∧ j < m) := fun j hj => by omega
  have hlt : ∀ j, j < m → nb j < w.heap.size := fun j hj => (h.lt j hj).2
  refine ⟨fun j hj => ?_, fun j hj => ?_, fun j hj => ?_, fun j hj => ?_, fun j hj => ?_, fun j hj => ?_, fun j hj => ?_, fun i j hi hj hij => ?_, fun i j hi hj => ?_, fun i j hi hj hij => ?_⟩
  · rcases hc j hj with rfl | ⟨e, hj⟩
    · rw [putA_at]; simp; omega
    · rw [putA_ne _ _ e]; exact h1.lt j hj
  · rcases hc j hj with rfl | ⟨e, hj⟩
    · rw [putA_at]; simp
    · rw [putA_ne _ _ e]; exact h1.c0 j hj
  · rcases hc j hj with rfl | ⟨e, hj⟩
    · rw [putA_at]; simp
    · rw [putA_ne _ _ e]; exact h1.c1 j hj
  · rcases hc j hj with rfl | ⟨e, hj⟩
    · rw [putA_at, putA_at, putA_at, putA_at]; simp
    · rw [putA_ne _ _ e, putA_ne _ _ e, putA_ne _ _ e, putA_ne _ _ e]; exact h1.c2 j hj
  · rcases hc j hj with rfl | ⟨e, hj⟩
    · rw [putA_at]; go_simp
    · rw [putA_ne _ _ e]; exact h1.f2 j hj
  · rcases hc j hj with rfl | ⟨e, hj⟩
    · rw [putA_at, putA_at, putA_at, putA_at]
      exact World.ownsRow_nil _ _ _ _
    · rw [putA_ne _ _ e, putA_ne _ _ e, putA_ne _ _ e, putA_ne _ _ e, rowN_congr (nb' := nb) fun k hk => putA_ne _ _ (by have := h.kid j hj k hk; omega)]
      exact h1.row j hj
  · rcases hc j hj with rfl | ⟨e, hj⟩
    · rw [putA_at]; intro k hk; cases hk
    · rw [putA_ne _ _ e]
      intro k hk
      have := h.kid j hj k hk
      omega
  · rcases hc i hi with rfl | ⟨e, hi⟩ <;> rcases hc j hj with rfl | ⟨e2, hj⟩
    · exact absurd rfl hij
    · rw [putA_at, putA_ne _ _ e2]
      have := hlt j hj
      omega
    · rw [putA_at, putA_ne _ _ e]
      have := hlt i hi
      omega
    · rw [putA_ne _ _ e, putA_ne _ _ e2]
      exact h.one i j hi hj hij
  · rcases hc i hi with rfl | ⟨e, hi⟩
    · rw [putA_at, putA_at, putA_at]
      intro q
      cases q
    · rw [putA_ne _ _ e, putA_ne _ _ e, putA_ne _ _ e]
      rcases hc j hj with rfl | ⟨e2, hj⟩
      · rw [putA_at]
        intro q
        have := ((h.row i hi).lt _ q).2
        omega
      · rw [putA_ne _ _ e2]
        exact h.off i j hi hj
  · rcases hc i hi with rfl | ⟨e, hi⟩
    · rw [putA_at, putA_at, putA_at]
      intro g q
      cases q
    · rw [putA_ne _ _ e, putA_ne _ _ e, putA_ne _ _ e]
      rcases hc j hj with rfl | ⟨e2, hj⟩
      · rw [putA_at, putA_at, putA_at]
        intro g _ q
        cases q
      · rw [putA_ne _ _ e2, putA_ne _ _ e2, putA_ne _ _ e2]
        exact h.each i j hi hj hij
/-- k is put into p -/
theorem Nodes.put {w0 w3 : World} {p k : Nat} {a' : Option Addr} {n' c' : Nat} (h : Nodes w B bi oi l m nb KA KN KC K) (hp : p < m) (hk : k < m) (hw : Below w.heap.size w w0)
    (hown : w3.ownsRow B 163 1 (.slice a' n' c') n' (rowN nb (K p) ++ [ptrN (nb k)])) (hgr : w0.grownBy w3 (Value.slice (KA p) (KN p) (KC p)).ownBlock)
    (hat : (Value.slice a' n' c').ownBlock = (Value.slice (KA p) (KN p) (KC p)).ownBlock ∨ ∃ g, (Value.slice a' n' c').ownBlock = some g ∧ w0.heap.size ≤ g) :
    Nodes (w3.setCell ⟨nb p, 2, none⟩ (.slice a' n' c')) B bi oi l m nb (putA p a' KA) (putA p n' KN) (putA p c' KC) (putA p (K p ++ [k]) K) := by
  have h0 := h.below hw
  have ho := Only.grown hgr
  have hnr : ∀ j, j < m → ¬ (some (nb j) = (Value.slice (KA p) (KN p) (KC p)).ownBlock) := fun j hj e => h.off p j hp hj e.symm
  have hsz : w3.heap.size = (w3.setCell ⟨nb p, 2, none⟩ (.slice a' n' c')).heap.size := by simp
  have hl3 : ∀ j, j < m → nb j < w3.heap.size := fun j hj => Nat.lt_of_lt_of_le (h0.lt j hj).2 ho.size
  have k0 : ∀ j, j < m → ∀ i, w3.cell? ⟨nb j, i, none⟩ = w0.cell? ⟨nb j, i, none⟩ := fun j hj i => ho.cell (p := ⟨nb j, i, none⟩) (h0.lt j hj).2 (hnr j hj)
  have kf : ∀ j, j < m → ∀ i, w3.frozen? ⟨nb j, i, none⟩ = w0.frozen? ⟨nb j, i, none⟩ := fun j hj i => ho.frozen (p := ⟨nb j, i, none⟩) (h0.lt j hj).2 (hnr j hj)
  have hnew : ∀ j, j < m → (Value.slice a' n' c').ownBlock ≠ some (nb j) := fun j hj e => by
    rcases hat with q | ⟨g, q, hg⟩
    · exact h.off p j hp hj (q.symm.trans e)
    · rw [q] at e
      simp only [Option.some.injEq] at e
      have := (h0.lt j hj).2
      omega
  have hc : ∀ j, j = p ∨ j ≠ p := fun j => by omega
  refine ⟨fun j hj => ⟨(h.lt j hj).1, by rw [← hsz]; exact hl3 j hj⟩, fun j hj => ?_, fun j hj => ?_, fun j hj => ?_, fun j hj => ?_, fun j hj => ?_, fun j hj => ?_, h.one, fun i j hi hj => ?_, fun i j hi hj hij => ?_⟩
  · rw [World.cell?_setCell_other _ _ _ _ (fun e => absurd (congrArg Addr.off e) (show (2 : Nat) ≠ 0 by decide)), k0 j hj]
    exact h0.c0 j hj
  · rw [World.cell?_setCell_other _ _ _ _ (fun e => absurd (congrArg Addr.off e) (show (2 : Nat) ≠ 1 by decide)), k0 j hj]
    exact h0.c1 j hj
  · rcases hc j with rfl | e
    · rw [putA_at, putA_at, putA_at]
      exact World.cell?_setCell_same _ _ _ ((k0 j hj 2).trans (h0.c2 j hj))
    · rw [putA_ne _ _ e, putA_ne _ _ e, putA_ne _ _ e, World.cell?_setCell_other _ _ _ _ (fun q => h.one p j hp hj (fun r => e r.symm) (congrArg Addr.block q)), k0 j hj]
      exact h0.c2 j hj
  · rw [World.frozen?_setCell, kf j hj]
    exact h0.f2 j hj
  · rcases hc j with rfl | e
    · rw [putA_at, putA_at, putA_at, putA_at]
      have er : rowN nb (K j ++ [k]) = rowN nb (K j) ++ [ptrN (nb k)] := by simp [rowN]
      rw [er]
      exact owns_only hown (Only.set (P := fun i => i = nb j) w3 ⟨nb j, 2, none⟩ _ rfl) fun g hg q => hnew j hj (by rw [hg, q])
    · rw [putA_ne _ _ e, putA_ne _ _ e, putA_ne _ _ e, putA_ne _ _ e]
      have r3 := owns_only (h0.row j hj) ho fun g hg q => h.each p j hp hj (fun r => e r.symm) g q.symm hg
      exact owns_only r3 (Only.set (P := fun i => i = nb p) w3 ⟨nb p, 2, none⟩ _ rfl) fun g hg q => h.off j p hj hp (by rw [hg, q])
  · rcases hc j with rfl | e
    · rw [putA_at]
      intro q hq
      rw [List.mem_append, List.mem_singleton] at hq
      rcases hq with hq | rfl
      · exact h.kid j hj q hq
      · exact hk
    · rw [putA_ne _ _ e]
      exact h.kid j hj
  · rcases hc i with rfl | e
    · rw [putA_at, putA_at, putA_at]
      exact hnew j hj
    · rw [putA_ne _ _ e, putA_ne _ _ e, putA_ne _ _ e]
      exact h.off i j hi hj
  · have hne : ∀ j, j < m → j ≠ p → ∀ g, (Value.slice a' n' c').ownBlock = some g → (Value.slice (KA j) (KN j) (KC j)).ownBlock ≠ some g := fun j hj e g hg q => by
      rcases hat with r | ⟨g', r, hg'⟩
      · exact h.each p j hp hj (fun r => e r.symm) g (r.symm.trans hg) q
      · rw [r] at hg
        simp only [Option.some.injEq] at hg
        have := ((h0.row j hj).lt g q).2
        omega
    rcases hc i with rfl | e
    · rcases hc j with rfl | e2
      · exact absurd rfl hij
      · rw [putA_at, putA_at, putA_at, putA_ne _ _ e2, putA_ne _ _ e2, putA_ne _ _ e2]
        exact hne j hj e2
    · rcases hc j with rfl | e2
      · rw [putA_ne _ _ e, putA_ne _ _ e, putA_ne _ _ e, putA_at, putA_at, putA_at]
        intro g hg q
        exact hne i hi e g q hg
      · rw [putA_ne _ _ e, putA_ne _ _ e, putA_ne _ _ e, putA_ne _ _ e2, putA_ne _ _ e2, putA_ne _ _ e2]
        exact h.each i j hi hj hij
end
end Go.Proofs.YticpebpicdboaaaGreatDoor
