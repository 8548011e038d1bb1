/- Rows of items laid by a literal. -/
import Derived.Test.YtppgdbejbhhjlaaGreatDoorGF19
import Derived.Test.YtppgdbejbhhjlaaGreatDoorGF12
import Derived.Test.YtppgdbejbhhjlaaGreatDoorGF0
import Derived.Deep.RegionLaw
import Derived.Deep.RegionHeld3
import Derived.Maps.AppendAt
namespace Go.Proofs.YtppgdbejbhhjlaaGreatDoor
open Go.ChangeShapes Go.WideShapes Go.ChangeAt Go.RowKit
set_option linter.unusedVariables false
set_option linter.unusedSimpArgs false

theorem GrowIts.base {w : World} {B B' : Nat} {v : Value} {n : Nat} {l : List It} {A : Nat → Option Addr} {N C : Nat → Nat} (h : GrowIts w B v n l A N C) (hle : B' ≤ B) : GrowIts w B' v n l A N C :=
  ⟨owns_mono h.row hle, fun i hi => ⟨⟨(h.ats i hi).1.ats, (h.ats i hi).1.own.imp id fun ⟨b, g1, g2, g3, g4⟩ => ⟨b, g1, by omega, g3, g4⟩⟩, (h.ats i hi).2⟩, h.apart, h.each⟩
theorem OwnAts.later2 {w w' : World} {lo : Nat} {a : Option Addr} {n c : Nat} {l : List At} (h : OwnAts w lo w.heap.size a n c l) (hb : Below w.heap.size w w') : OwnAts w' lo w'.heap.size a n c l := h.later hb hb.size
theorem grow_lit {w : World} {B : Nat} (l : List It) (A : Nat → Option Addr) (N C : Nat → Nat) (arr : Array Value) (harr : arr.toList = flatI l A N C) (hB : B ≤ w.heap.size) (hk : l.length ≤ 1000)
    (hA : ∀ i, i < l.length → OwnAts w B w.heap.size (A i) (N i) (C i) (l.getD i dIt).attrs ∧ (A i = none → C i = 0))
    (hE : ∀ i j, i < l.length → j < l.length → i ≠ j → ∀ x y, A i = some x → A j = some y → N i ≠ 0 → N j ≠ 0 → x.block ≠ y.block) :
    GrowIts (w.alloc (.cells arr 71)) B (.slice (some ⟨w.heap.size, 0, none⟩) l.length l.length) l.length l A N C := by
  have hsz : arr.size = l.length * 5 := by rw [← Array.length_toList, harr, flatI_length]
  have hl := World.ownsRow_lit (base := B) (e := 71) (size := 5) w arr l.length hB (by unfold maxLen; omega) hsz
  refine ⟨by rw [← harr]; exact hl, fun i hi => ⟨?_, (hA i hi).2⟩, fun i hi x hx hne => ?_, hE⟩
  · exact (hA i hi).1.later (below1 w _) (by simp)
  · have g := (hA i hi).1.in hx hne
    simp only [Value.ownBlock]
    intro e
    simp only [Option.some.injEq] at e
    omega
def five (a b : Option Addr) (i : Nat) : Option Addr := if i = 0 then a else if i = 1 then b else none
def fiveN (i : Nat) : Nat := if i = 0 then 1 else if i = 1 then 1 else 0
def headW (f bw : ByteArray) : List It := [rootP8 f, elemI 1 pidfSp tupleNm [⟨idNm, tT⟩], elemI 2 pidfSp stNm [], elemI 3 pidfSp basicNm [], textI 4 bw]
theorem five_one (l : List It) (x : It) : (x :: l).getD 0 dIt = x := rfl
theorem grow_head {W : World} {B : Nat} (f bw : ByteArray) (k1 k2 : Nat) (hB : B ≤ W.heap.size) (O1 : OwnAts W B W.heap.size (some ⟨k1, 0, none⟩) 1 1 [⟨⟨#[101, 110, 116, 105, 116, 121]⟩, ⟨#[112, 114, 101, 115, 58]⟩ ++ f⟩]) (O2 : OwnAts W B W.heap.size (some ⟨k2, 0, none⟩) 1 1 [⟨⟨#[105, 100]⟩, ⟨#[116]⟩⟩]) (hne : k1 ≠ k2) :
    GrowIts (W.alloc (.cells #[.int .i64 0, .string ⟨#[]⟩, .string ⟨#[117, 114, 110, 58, 105, 101, 116, 102, 58, 112, 97, 114, 97, 109, 115, 58, 120, 109, 108, 58, 110, 115, 58, 112, 105, 100, 102]⟩, .string ⟨#[112, 114, 101, 115, 101, 110, 99, 101]⟩, .slice (some ⟨k1, 0, none⟩) 1 1, .int .i64 1, .string ⟨#[]⟩, .string ⟨#[117, 114, 110, 58, 105, 101, 116, 102, 58, 112, 97, 114, 97, 109, 115, 58, 120, 109, 108, 58, 110, 115, 58, 112, 105, 100, 102]⟩, .string ⟨#[116, 117, 112, 108, 101]⟩, .slice (some ⟨k2, 0, none⟩) 1 1, .int .i64 2, .string ⟨#[]⟩, .string ⟨#[117, 114, 110, 58, 105, 101, 116, 102, 58, 112, 97, 114, 97, 109, 115, 58, 120, 109, 108, 58, 110, 115, 58, 112, 105, 100, 102]⟩, .string ⟨#[115, 116, 97, 116, 117, 115]⟩, .slice none 0 0, .int .i64 3, .string ⟨#[]⟩, .string ⟨#[117, 114, 110, 58, 105, 101, 116, 102, 58, 112, 97, 114, 97, 109, 115, 58, 120, 109, 108, 58, 110, 115, 58, 112, 105, 100, 102]⟩, .string ⟨#[98, 97, 115, 105, 99]⟩, .slice none 0 0, .int .i64 4, .string bw, .string ⟨#[]⟩, .string ⟨#[]⟩, .slice none 0 0] 71)) B (.slice (some ⟨W.heap.size, 0, none⟩) 5 5) 5 (headW f bw) (five (some ⟨k1, 0, none⟩) (some ⟨k2, 0, none⟩)) fiveN fiveN := by
  refine grow_lit (headW f bw) _ _ _ _ ?_ hB (by show (5 : Nat) ≤ 1000; decide) (fun i hi => ?_) (fun i j hi hj hij x y hx hy hnx hny => ?_)
  · show _ = List.map (cellI (headW f bw) _ _ _) (List.range 25)
    rw [show List.range 25 = [0, 1, 2, 3, 4, 5, 6, 7, 8, 9, 10, 11, 12, 13, 14, 15, 16, 17, 18, 19, 20, 21, 22, 23, 24] from by decide]
    rfl
  · match i, hi with
    | 0, _ => exact ⟨O1, fun e => by cases e⟩
    | 1, _ => exact ⟨O2, fun e => by cases e⟩
    | 2, _ => exact ⟨bareAts _ _ _, fun _ => rfl⟩
    | 3, _ => exact ⟨bareAts _ _ _, fun _ => rfl⟩
    | 4, _ => exact ⟨bareAts _ _ _, fun _ => rfl⟩
  · have h5 : ∀ i, fiveN i ≠ 0 → i = 0 ∨ i = 1 := fun i h => by
      unfold fiveN at h
      split at h
      · exact .inl (by assumption)
      · split at h
        · exact .inr (by assumption)
        · exact absurd rfl h
    rcases h5 i hnx with rfl | rfl <;> rcases h5 j hny with rfl | rfl
    · exact absurd rfl hij
    · simp only [five, if_true, Option.some.injEq] at hx hy
      simp at hy
      subst hx; subst hy
      exact hne
    · simp only [five, if_true, Option.some.injEq] at hx hy
      simp at hx
      subst hx; subst hy
      exact hne.symm
    · exact absurd rfl hij
end Go.Proofs.YtppgdbejbhhjlaaGreatDoor

/- An append to a row of the call's own, as one step of a region that draws its order. -/
namespace Go.Proofs.YtppgdbejbhhjlaaGreatDoor
open Go.ChangeShapes Go.WideShapes Go.ChangeAt Go.RowKit
set_option linter.unusedVariables false

theorem step_own {P : Program} {ops : Array Oper} {o : Oper} {a : Act} {w : World} {K : Act → World → Prop} {Q : Exit → Act → World → Prop} {E : Prop} (hw : Region.wanted o (yielded ops a.tmps) = true) (s x : Operand) (t : TypeId)
    (ho : o.op = .call { callee := .builtin .append, args := #[s, x], argTypes := #[t, t] })
    (e : TypeId) (i : TypeInfo) (z : Value) (size bytes : Nat) (ht : P.underlying t = some (.slice e)) (hi : P.info? e = some i) (hz : i.zero = some z) (hsize : i.size = size) (hby : i.bytes = bytes) (hzc : z.cells.size = size) (hpos : 0 < size)
    (base : Nat) (v : Value) (n : Nat) (xs : List Value) (hs : a.eval s = v) (hown : w.ownsRow base e size v n xs)
    (ad : Addr) (m c : Nat) (ys : List Value) (hx : a.eval x = .slice (some ad) m c) (hn : ys.length = m * size) (hcells : ∀ j u, ys[j]? = some u → w.cell? (ad.add j) = some u) (h1c : ∀ u ∈ ys, u.oneCell' = true)
    (b1 : n + m ≤ maxLen) (b2 : (n + m) * bytes ≤ 140737488355328) (hbase : base ≤ w.heap.size)
    (h : ∀ v' w', w'.ownsRow base e size v' (n + m) (xs ++ ys) → w.grownBy w' v.ownBlock → K (a.put o.dst v') w') :
    if Region.wanted o (yielded ops a.tmps) = true then Oper.wp P o a w K Q else E := by
  rw [if_pos hw]
  refine wp_append_own w s x t ho base e i _ size bytes ht hi hz hsize hby hzc hpos v n xs (by rw [hs]) hown ad m c ys hx hn hcells h1c b1 b2 hbase ?_
  intro v' w' hown' hgrow hnil
  exact h v' w' hown' hgrow
theorem step_own_at {P : Program} {ops : Array Oper} {o : Oper} {a : Act} {w : World} {K : Act → World → Prop} {Q : Exit → Act → World → Prop} {E : Prop} (hw : Region.wanted o (yielded ops a.tmps) = true) (s x : Operand) (t : TypeId)
    (ho : o.op = .call { callee := .builtin .append, args := #[s, x], argTypes := #[t, t] })
    (e : TypeId) (i : TypeInfo) (z : Value) (size bytes : Nat) (ht : P.underlying t = some (.slice e)) (hi : P.info? e = some i) (hz : i.zero = some z) (hsize : i.size = size) (hby : i.bytes = bytes) (hzc : z.cells.size = size) (hpos : 0 < size)
    (base : Nat) (v : Value) (n : Nat) (xs : List Value) (hs : a.eval s = v) (hown : w.ownsRow base e size v n xs)
    (ad : Addr) (m c : Nat) (ys : List Value) (hx : a.eval x = .slice (some ad) m c) (hn : ys.length = m * size) (hcells : ∀ j u, ys[j]? = some u → w.cell? (ad.add j) = some u) (h1c : ∀ u ∈ ys, u.oneCell' = true)
    (b1 : n + m ≤ maxLen) (b2 : (n + m) * bytes ≤ 140737488355328) (hbase : base ≤ w.heap.size)
    (h : ∀ v' w', w'.ownsRow base e size v' (n + m) (xs ++ ys) → w.grownBy w' v.ownBlock → (v'.ownBlock = v.ownBlock ∨ v'.ownBlock = some w.heap.size) → K (a.put o.dst v') w') :
    if Region.wanted o (yielded ops a.tmps) = true then Oper.wp P o a w K Q else E := by
  rw [if_pos hw]
  obtain ⟨v', w', hr, h2, h3, h4, h5⟩ := run_append_own_at (P := P) w base t o.type e i z size bytes ht hi hz hsize hby hzc hpos v n xs hown ad m c ys hn hcells h1c b1 b2 hbase
  unfold Oper.wp execOp
  simp only [ho, resolve, invoke, builtin, Sem.run_bind, Sem.run_pure, Result.andThen_ok, List.map_toArray, List.map_cons, List.map_nil, hs, hx, hr]
  exact h v' w' h2 h3 h5
end Go.Proofs.YtppgdbejbhhjlaaGreatDoor
