/- Plain facts on rows and boxes (cut out of XReader, XReadItem, XUnpack2). -/
import Derived.Test.YtcaknhoaoodbfaaGreatDoorGP0
import Derived.Deep.AppendLies
import Derived.Deep.RegionLaw
import Derived.Deep.RegionHeld3
import Derived.Maps.AppendAt
import Derived.Test.YtcaknhoaoodbfaaGreatDoorGP1
import Derived.Test.YtcaknhoaoodbfaaGreatDoorGP2
namespace Go.Proofs.YtcaknhoaoodbfaaGreatDoor
open Go.ChangeShapes Go.WideShapes Go.ChangeAt Go.RowKit
set_option linter.unusedVariables false
theorem grown_set (w : World) (a : Addr) (u : Value) : w.grownBy (w.setCell a u) (some a.block) :=
  ⟨rfl, rfl, rfl, by simp, fun k _ hk => Below.heap_setCell _ _ _ k (fun e => hk (by rw [e]))⟩
theorem set_at {w : World} {p : Addr} {u v : Value} (h : w.cell? p = some u) : (w.setCell p v).cell? p = some v := World.cell?_setCell_same _ _ _ h
theorem set_oth {w : World} {b i j : Nat} {v u : Value} (h : i ≠ j) (h2 : w.cell? ⟨b, j, none⟩ = some u) : (w.setCell ⟨b, i, none⟩ v).cell? ⟨b, j, none⟩ = some u := (World.cell?_setCell_other _ _ _ _ (fun e => absurd (congrArg Addr.off e) h)).trans h2
theorem row_kept {w w' : World} {base : Nat} {e : TypeId} {size : Nat} {v : Value} {n : Nat} {xs : List Value} {b : Nat} (h : w.ownsRow base e size v n xs) (hg : w.grownBy w' (some b)) (hne : v.ownBlock ≠ some b) : w'.ownsRow base e size v n xs := h.kept hg (.inr hne)
theorem grown_below {w w' : World} {r : Option Nat} (h : Below w.heap.size w w') : w.grownBy w' r := ⟨h.os, h.tape, h.output, h.size, fun i hi _ => h.block i hi⟩
theorem grown_mix {a b c : World} {x : Option Nat} {row : Option Nat} (h : a.grownBy b x) (hg : b.grownBy c row) (hr : ∀ g, row = some g → a.heap.size ≤ g) : a.grownBy c x :=
  ⟨hg.os.trans h.os, hg.tape.trans h.tape, hg.output.trans h.output, Nat.le_trans h.size hg.size, fun i hi hne => (hg.block i (Nat.lt_of_lt_of_le hi h.size) (by
    intro e
    have := hr i e.symm
    omega)).trans (h.block i hi hne)⟩
structure X5 (w : World) (x : Nat) (v0 v1 v2 v3 v4 : Value) : Prop where
  lt : x < w.heap.size
  c0 : w.cell? ⟨x, 0, none⟩ = some v0
  c1 : w.cell? ⟨x, 1, none⟩ = some v1
  c2 : w.cell? ⟨x, 2, none⟩ = some v2
  c3 : w.cell? ⟨x, 3, none⟩ = some v3
  c4 : w.cell? ⟨x, 4, none⟩ = some v4
  fz : ∀ i, i < 5 → w.frozen? ⟨x, i, none⟩ = false
theorem X5.grown {w w' : World} {x : Nat} {v0 v1 v2 v3 v4 : Value} {row : Option Nat} (h : X5 w x v0 v1 v2 v3 v4) (hg : w.grownBy w' row) (hne : some x ≠ row) : X5 w' x v0 v1 v2 v3 v4 :=
  ⟨Nat.lt_of_lt_of_le h.lt hg.size, hg.cell h.c0 hne, hg.cell h.c1 hne, hg.cell h.c2 hne, hg.cell h.c3 hne, hg.cell h.c4 hne, fun i hi => (hg.frozen_far ⟨x, i, none⟩ h.lt hne).trans (h.fz i hi)⟩
theorem X5.new (w : World) (T : TypeId) (v0 v1 v2 v3 v4 : Value) : X5 (w.alloc (.cells #[v0, v1, v2, v3, v4] T)) w.heap.size v0 v1 v2 v3 v4 :=
  ⟨by simp, by simp, by simp, by simp, by simp, by simp, fun i _ => by simp⟩
theorem X5.set {w : World} {x : Nat} {v0 v1 v2 v3 v4 : Value} (h : X5 w x v0 v1 v2 v3 v4) (i : Nat) (v : Value) (hi : i < 5) : X5 (w.setCell ⟨x, i, none⟩ v) x (if i = 0 then v else v0) (if i = 1 then v else v1) (if i = 2 then v else v2) (if i = 3 then v else v3) (if i = 4 then v else v4) := by
  have key : ∀ (j : Nat) (u : Value), w.cell? ⟨x, j, none⟩ = some u → (w.setCell ⟨x, i, none⟩ v).cell? ⟨x, j, none⟩ = some (if i = j then v else u) := by
    intro j u hu
    by_cases e : i = j
    · subst e
      rw [if_pos rfl]
      exact set_at hu
    · rw [if_neg e]
      exact set_oth e hu
  exact ⟨by simpa using h.lt, key 0 _ h.c0, key 1 _ h.c1, key 2 _ h.c2, key 3 _ h.c3, key 4 _ h.c4, fun k hk => by rw [World.frozen?_setCell]; exact h.fz k hk⟩
theorem X5.fill {w : World} {x : Nat} {v0 v1 v2 v3 v4 : Value} (h : X5 w x v0 v1 v2 v3 v4) (u0 u1 u2 u3 u4 : Value) : X5 (((((w.setCell ⟨x, 0, none⟩ u0).setCell ⟨x, 1, none⟩ u1).setCell ⟨x, 2, none⟩ u2).setCell ⟨x, 3, none⟩ u3).setCell ⟨x, 4, none⟩ u4) x u0 u1 u2 u3 u4 := by
  have := ((((h.set 0 u0 (by decide)).set 1 u1 (by decide)).set 2 u2 (by decide)).set 3 u3 (by decide)).set 4 u4 (by decide)
  simpa using this
theorem flatA_snoc (l : List At) (x : At) : flatA (l ++ [x]) = flatA l ++ [.string x.name, .string x.value] := by
  apply List.ext_getElem?
  intro j
  have hl : (l ++ [x]).length = l.length + 1 := by simp
  have hx : (l ++ [x]).getD l.length dAt = x := by rw [List.getD_eq_getElem?_getD, List.getElem?_append_right (Nat.le_refl _)]; simp
  by_cases h : j < l.length * 2
  · rw [flatA_get _ _ (by omega), List.getElem?_append_left (by rw [flatA_length]; exact h), flatA_get _ _ h]
    have e : (l ++ [x]).getD (j / 2) dAt = l.getD (j / 2) dAt := by rw [List.getD_eq_getElem?_getD, List.getElem?_append_left (by omega), ← List.getD_eq_getElem?_getD]
    rw [e]
  · rw [List.getElem?_append_right (by rw [flatA_length]; omega), flatA_length]
    by_cases h0 : j = l.length * 2
    · subst h0
      rw [flatA_name _ _ (by omega), hx]
      simp
    · by_cases h1 : j = l.length * 2 + 1
      · subst h1
        rw [flatA_value _ _ (by omega), hx]
        simp
      · rw [List.getElem?_eq_none (by rw [flatA_length]; omega), List.getElem?_eq_none (by simp; omega)]
theorem owns_fill {w : World} {base : Nat} {e : TypeId} {size : Nat} {v : Value} {n : Nat} {xs : List Value} (h : w.ownsRow base e size v n xs) (x : Nat) (hne : v.ownBlock ≠ some x) (u0 u1 u2 u3 u4 : Value) : (((((w.setCell ⟨x, 0, none⟩ u0).setCell ⟨x, 1, none⟩ u1).setCell ⟨x, 2, none⟩ u2).setCell ⟨x, 3, none⟩ u3).setCell ⟨x, 4, none⟩ u4).ownsRow base e size v n xs :=
  row_kept (row_kept (row_kept (row_kept (row_kept h (grown_set _ _ _) hne) (grown_set _ _ _) hne) (grown_set _ _ _) hne) (grown_set _ _ _) hne) (grown_set _ _ _) hne
theorem sizes_snoc {es : List At} {x y : ByteArray} (h : ∀ i, (es.getD i dAt).name.size ≤ 60 ∧ (es.getD i dAt).value.size ≤ 60) (hx : x.size ≤ 60) (hy : y.size ≤ 60) : ∀ i, ((es ++ [(⟨x, y⟩ : At)]).getD i dAt).name.size ≤ 60 ∧ ((es ++ [(⟨x, y⟩ : At)]).getD i dAt).value.size ≤ 60 := by
  intro i
  by_cases hi : i < es.length
  · have e : (es ++ [(⟨x, y⟩ : At)]).getD i dAt = es.getD i dAt := by rw [List.getD_eq_getElem?_getD, List.getElem?_append_left hi, ← List.getD_eq_getElem?_getD]
    rw [e]
    exact h i
  · by_cases h2 : i = es.length
    · subst h2
      have e : (es ++ [(⟨x, y⟩ : At)]).getD es.length dAt = ⟨x, y⟩ := by rw [List.getD_eq_getElem?_getD, List.getElem?_append_right (Nat.le_refl _)]; simp
      rw [e]
      exact ⟨hx, hy⟩
    · have e : (es ++ [(⟨x, y⟩ : At)]).getD i dAt = dAt := by rw [List.getD_eq_getElem?_getD, List.getElem?_eq_none (by simp; omega)]; rfl
      rw [e]
      simp [dAt]
theorem attCells (W : World) (x y : ByteArray) (j : Nat) (u : Value) (hj : [Value.string x, Value.string y][j]? = some u) : ((W.alloc (.cells #[.string x, .string y] 65))).cell? (Addr.add ⟨W.heap.size, 0, none⟩ j) = some u := by
  match j, hj with
  | 0, hj => simp at hj; subst hj; simp [Addr.add]
  | 1, hj => simp at hj; subst hj; simp [Addr.add]
theorem GrowIts.far {w w' : World} {B b : Nat} {v : Value} {n : Nat} {l : List It} {A : Nat → Option Addr} {N C : Nat → Nat} (h : GrowIts w B v n l A N C) (hg : w.grownBy w' (some b)) (hb : b < B) : GrowIts w' B v n l A N C := by
  refine ⟨row_kept h.row hg (fun e => by have := (h.row.lt b e).1; omega), fun i hi => ⟨?_, (h.ats i hi).2⟩, h.apart, h.each⟩
  have h1 := (h.ats i hi).1.only (Only.grown hg) fun y hy hne e => by
    have := (h.ats i hi).1.in hy hne
    simp only [Option.some.injEq] at e
    omega
  exact ⟨h1.ats, h1.own.imp id fun ⟨q, g1, g2, g3, g4⟩ => ⟨q, g1, g2, by have := hg.size; omega, g4⟩⟩
theorem itCells (W : World) (v0 v1 v2 v3 v4 : Value) (j : Nat) (u : Value) (hj : [v0, v1, v2, v3, v4][j]? = some u) : ((W.alloc (.cells #[v0, v1, v2, v3, v4] 67))).cell? (Addr.add ⟨W.heap.size, 0, none⟩ j) = some u := by
  match j, hj with
  | 0, hj => simp at hj; subst hj; simp [Addr.add]
  | 1, hj => simp at hj; subst hj; simp [Addr.add]
  | 2, hj => simp at hj; subst hj; simp [Addr.add]
  | 3, hj => simp at hj; subst hj; simp [Addr.add]
  | 4, hj => simp at hj; subst hj; simp [Addr.add]
def RowS (w : World) (v : Value) (ts : List ByteArray) : Prop :=
  (v = .slice none 0 0 ∧ ts = []) ∨ ∃ b o cap, v = .slice (some ⟨b, o, none⟩) ts.length cap ∧ ts.length ≤ cap ∧ cap ≤ maxLen ∧ b < w.heap.size ∧ ∀ i, i < ts.length → w.cell? ⟨b, o + i, none⟩ = some (.string (ts.getD i ByteArray.empty))
theorem RowS.of_owns {w : World} {base : Nat} {e : TypeId} {v : Value} {n : Nat} {ts : List ByteArray} (h : w.ownsRow base e 1 v n (ts.map Value.string)) : RowS w v ts := by
  have hl : ts.length = n := by have := h.1; simpa using this
  subst hl
  rcases h.2 with ⟨hv, hn⟩ | ⟨g, cap, cur, hv, hg, hh, hnc, hm, hs, ht⟩
  · have : ts = [] := List.length_eq_zero_iff.1 hn
    subst this
    exact .inl ⟨hv, rfl⟩
  · subst hv
    have hlt := (h.lt g rfl).2
    refine .inr ⟨g, 0, cap, rfl, hnc, hm, hlt, fun i hi => ?_⟩
    rw [Nat.zero_add, h.cellAt i (by omega), List.getElem?_map, List.getElem?_eq_getElem hi, List.getD_eq_getElem?_getD, List.getElem?_eq_getElem hi]
    rfl
theorem RowS.below {w w' : World} {v : Value} {ts : List ByteArray} (h : RowS w v ts) (hb : Below w.heap.size w w') : RowS w' v ts := by
  rcases h with h | ⟨b, o, cap, hv, h1, h2, h3, h4⟩
  · exact .inl h
  · exact .inr ⟨b, o, cap, hv, h1, h2, Nat.lt_of_lt_of_le h3 hb.size, fun i hi => (hb.cell (by exact h3)).trans (h4 i hi)⟩
theorem ownsDrew {w : World} {base : Nat} {e : TypeId} {size : Nat} {v : Value} {n : Nat} {xs : List Value} (h : w.ownsRow base e size v n xs) : w.drew.ownsRow base e size v n xs := h
theorem grownDrew {w w1 : World} {r : Option Nat} (h : w.drew.grownBy w1 r) : w.grownBy w1 r := ⟨h.os, h.tape, h.output, h.size, h.block⟩
def OwnsStr (w : World) (ts : List ByteArray) (en : Ending) (w' : World) : Prop :=
  ∃ a c, en = .returned (.slice a ts.length c) ∧ w'.ownsRow w.heap.size 9 1 (.slice a ts.length c) ts.length (ts.map Value.string) ∧ Below w.heap.size w w'
theorem step_own_at {P : Program} {ops : Array Oper} {o : Oper} {a : Act} {w : World} {K : Act → World → Prop} {Q : Exit → Act → World → Prop} {E : Prop} (hw : Region.wanted o (yielded ops a.tmps) = true) (s x : Operand) (t : TypeId)
    (ho : o.op = .call { callee := .builtin .append, args := #[s, x], argTypes := #[t, t] })
    (e : TypeId) (i : TypeInfo) (z : Value) (size bytes : Nat) (ht : P.underlying t = some (.slice e)) (hi : P.info? e = some i) (hz : i.zero = some z) (hsize : i.size = size) (hby : i.bytes = bytes) (hzc : z.cells.size = size) (hpos : 0 < size)
    (base : Nat) (v : Value) (n : Nat) (xs : List Value) (hs : a.eval s = v) (hown : w.ownsRow base e size v n xs)
    (ad : Addr) (m c : Nat) (ys : List Value) (hx : a.eval x = .slice (some ad) m c) (hn : ys.length = m * size) (hcells : ∀ j u, ys[j]? = some u → w.cell? (ad.add j) = some u) (h1c : ∀ u ∈ ys, u.oneCell' = true)
    (b1 : n + m ≤ maxLen) (b2 : (n + m) * bytes ≤ 140737488355328) (hbase : base ≤ w.heap.size)
    (h : ∀ v' w', w'.ownsRow base e size v' (n + m) (xs ++ ys) → w.grownBy w' v.ownBlock → (v'.ownBlock = v.ownBlock ∨ v'.ownBlock = some w.heap.size) → K (a.put o.dst v') w') :
    if Region.wanted o (yielded ops a.tmps) = true then Oper.wp P o a w K Q else E := by
  rw [if_pos hw]
  obtain ⟨v', w', hr, h2, h3, h4, h5⟩ := run_append_own_at (P := P) w base t o.type e i z size bytes ht hi hz hsize hby hzc hpos v n xs hown ad m c ys hn hcells h1c b1 b2 hbase
  unfold Oper.wp execOp
  simp only [ho, resolve, invoke, builtin, Sem.run_bind, Sem.run_pure, Result.andThen_ok, List.map_toArray, List.map_cons, List.map_nil, hs, hx, hr]
  exact h v' w' h2 h3 h5
def ShortAts (es : List At) : Prop := ∀ i, (es.getD i dAt).name.size ≤ 60 ∧ (es.getD i dAt).value.size ≤ 60
def AttsDrawn (w : World) (b : Nat) (a : Option Addr) (n c : Nat) (xs : List Int) (k : Nat) (en : Ending) (w' : World) : Prop :=
  ∃ (x : Option Addr) (m q : Nat) (es : List At) (k' : Nat), en = .returned (.slice x m q) ∧ w'.ownsRow w.heap.size 65 2 (.slice x m q) m (flatA es) ∧ m ≤ 5 ∧ es.length = m ∧ ShortAts es ∧ (x = none → q = 0) ∧ k' ≤ k + 40 ∧ Src w' b a n c xs k' ∧ w.grownBy w' (some b)
def WordsAt (w : World) (nb k : Nat) (f : Nat → ByteArray) : Prop := ∀ r, r < k → w.cell? ⟨nb, r, none⟩ = some (.string (f r))
theorem WordsAt.grown {w w' : World} {nb k : Nat} {f : Nat → ByteArray} {row : Option Nat} (h : WordsAt w nb k f) (hg : w.grownBy w' row) (hne : some nb ≠ row) : WordsAt w' nb k f := fun r hr => hg.cell (h r hr) hne
theorem words_at {w w1 : World} {arr : Array Value} {e : TypeId} (hb : Below (w.alloc (.cells arr e)).heap.size (w.alloc (.cells arr e)) w1) (m k : Nat) (hall : (List.range k).all (fun r => isWord m arr[r]?) = true) :
    ∃ f : Nat → ByteArray, WordsAt w1 w.heap.size k f ∧ ∀ r, r < k → (f r).size ≤ m := by
  have h := words_of hb m k hall
  refine ⟨fun r => if hr : r < k then (h r hr).choose else ByteArray.empty, fun r hr => ?_, fun r hr => ?_⟩
  · simp only [hr, dif_pos]
    exact (h r hr).choose_spec.1
  · simp only [hr, dif_pos]
    exact (h r hr).choose_spec.2
theorem lit_atts (w : World) : (w.alloc (.cells #[] 65)).ownsRow w.heap.size 65 2 (.slice (some ⟨w.heap.size, 0, none⟩) 0 0) 0 (flatA []) := by
  have := World.ownsRow_lit (base := w.heap.size) (e := 65) (size := 2) w #[] 0 (Nat.le_refl _) (by unfold maxLen; omega) rfl
  exact this
theorem row_grown {w w' : World} {base : Nat} {e : TypeId} {size : Nat} {v : Value} {n : Nat} {xs : List Value} {b : Nat} (h : w.ownsRow base e size v n xs) (hg : w.grownBy w' (some b)) (hb : b < base) : w'.ownsRow base e size v n xs :=
  row_kept h hg (fun e => by have := (h.lt _ e).1; omega)
set_option maxRecDepth 100000 in
set_option maxHeartbeats 3200000 in
theorem l4DrawAttrs_any (b : Nat) (a : Option Addr) (n c : Nat) (xs : List Int) (k : Nat) (hk : k + 100 < 1000000) (w : World) (h : Src w b a n c xs k) :
    Calls Tryz.prog 222 #[.pointer (some ⟨b, 0, none⟩)] w (AttsDrawn w b a n c xs k) := by
  obtain ⟨i0, hi, hz0, hi1, hz2⟩ := info_parts attrInfo
  unfold AttsDrawn
  have hblt := h.lt
  have HS0 := Lib.hid h
  have KC := Lib.hid (fun (k : Nat) (hk : k < 1000000) (W : World) (h : Src W b a n c xs k) => l1Chance_any b a n c xs k 4 (by decide) (by decide) hk W h)
  have KD := Lib.hid (fun (k : Nat) (hk : k + 6 < 1000000) (W : World) (h : Src W b a n c xs k) => l1DrawText_any b a n c xs k 5 (by decide) (by omega) W h)
  unfold TextDrawn at KD
  simp only [show ((5 : Nat) : Int) = 5 from rfl] at KD
  have HR0 := Lib.hid (lit_atts w)
  clear h
  go_enter Tryz.func222, Tryz.ntmps222
  go_wp2
  generalize hW : (w.alloc (.cells #[] 65)).alloc _ = W1
  obtain ⟨f, hf, hfs⟩ : ∃ f, WordsAt W1 (w.heap.size + 1) 5 f ∧ ∀ r, r < 5 → (f r).size ≤ 60 := by
    rw [← hW]
    have h := words_at (w := w.alloc (.cells #[] 65)) (arr := #[.string ⟨#[97]⟩, .string ⟨#[98]⟩, .string ⟨#[105, 100]⟩, .string ⟨#[116, 111]⟩, .string ⟨#[120, 109, 108, 58, 108, 97, 110, 103]⟩]) (e := 9) (Below.refl _ _) 60 5 (by decide +kernel)
    have e : (w.alloc (.cells #[] 65)).heap.size = w.heap.size + 1 := by simp
    rw [e] at h
    exact h
  have hb1 : Below w.heap.size w W1 := by rw [← hW]; exact below2 w _ _
  have hz1 : w.heap.size + 2 = W1.heap.size := by rw [← hW]; simp
  have HR1 : Hid (W1.ownsRow w.heap.size 65 2 (.slice (some ⟨w.heap.size, 0, none⟩) 0 0) 0 (flatA [])) := Lib.hid (by rw [← hW]; exact owns_below HR0.out (below1 _ _))
  have HS1 := Lib.hid (HS0.out.below hb1)
  have HB1 := Lib.hid hb1
  have HF := Lib.hid hf
  have HFS := Lib.hid hfs
  clear hW hf hfs hb1
  go_loopw [3, 10] (fun v i wr => ∃ (j m q : Nat) (x : Option Addr) (es : List At) (k' : Nat), i = .int .i64 j ∧ j ≤ 5 ∧ v = .slice x m q ∧ m ≤ j ∧ Hid (es.length = m) ∧ ShortAts es ∧ (x = none → q = 0) ∧ k' ≤ k + 8 * j ∧ wr.ownsRow w.heap.size 65 2 (.slice x m q) m (flatA es) ∧ (∀ g, (Value.slice x m q).ownBlock = some g → g ≠ w.heap.size + 1) ∧ Src wr b a n c xs k' ∧ w.grownBy wr (some b) ∧ WordsAt wr (w.heap.size + 1) 5 f ∧ w.heap.size + 2 ≤ wr.heap.size) (fun _ i _ => 5 - (intOf i).toNat)
  case atStart => exact ⟨0, 0, 0, _, [], k, rfl, by omega, rfl, Nat.le_refl _, Lib.hid rfl, fun i => by simp [dAt], fun e => (by cases e), by omega, HR1.out, fun g hg => by simp [Value.ownBlock] at hg; omega, HS1.out, grown_of_below HB1.out _, HF.out, by omega⟩
  case round =>
    obtain ⟨j, m, q, x, es, k', rfl, hj, rfl, hm, HL, hsh, hnil, hk', hrow, hap, hs, hg, hwd, hsz⟩ := hrel
    have HSH := Lib.hid hsh
    have HNIL := Lib.hid hnil
    have HROW := Lib.hid hrow
    have HAP := Lib.hid hap
    have HS := Lib.hid hs
    have HG := Lib.hid hg
    have HWD := Lib.hid hwd
    clear hsh hnil hrow hap hs hg hwd
    by_cases hlt : j < 5
    · have KC1 := Lib.hid (KC.out k' (by omega) wr HS.out)
      have k7 : (j : Int) < 5 := by omega
      go_wp2_with fail
      refine KC1.out.mono ?_
      rintro e w2 ⟨⟨t, rfl⟩, hs2, hg2⟩
      have HS2 := Lib.hid hs2
      have HG2 := Lib.hid (grown_trans_row HG.out hg2)
      have HWD2 := Lib.hid (HWD.out.grown hg2 (by simp; omega))
      have HR2 := Lib.hid (row_grown HROW.out hg2 hblt)
      have hsz2 : w.heap.size + 2 ≤ w2.heap.size := Nat.le_trans hsz hg2.size
      clear hs2 hg2
      cases t
      · go_wp2
        go_roundw
        case rel => exact ⟨j + 1, m, q, x, es, k' + 1, by go_num, by omega, rfl, by omega, HL, HSH.out, HNIL.out, by omega, HR2.out, HAP.out, HS2.out, HG2.out, HWD2.out, hsz2⟩
        case measure => simp [intOf]; omega
      · have d1 := HWD2.out j hlt
        have hnm := HFS.out j hlt
        generalize f j = nm at d1 hnm
        go_wp2
        have HSD := Lib.hid (HS2.out.below (Below.refl w2.heap.size w2).drew)
        have HRD := Lib.hid (ownsDrew HR2.out)
        have hS0 : w2.drew.cell? ⟨w.heap.size + 1, j, none⟩ = some (.string nm) := d1
        have hne : some (w.heap.size + 1) ≠ some b := by simp; omega
        first | (go_region_held3 (fun W => W.cell? ⟨w.heap.size + 1, j, none⟩ = some (.string nm)) (first | assumption | exact ((below1 _ _).cell (World.block_lt_of_cell? _ _ (by assumption))).trans (by assumption))
          (first
            | (go_at_call 113; (with_reducible refine (KD.out _ (by omega) _ HSD.out).mono ?_); rintro e w5 ⟨s, k5, rfl, hs5, hk5, hsr5, hg5⟩; have hS5 := hg5.cell hS0 hne; have HR5 := Lib.hid (row_grown HRD.out hg5 hblt))
            | (refine step_own_at (by rfl) _ _ 62 rfl 65 i0 (.agg #[.string ByteArray.empty, .string ByteArray.empty]) 2 32 Tryz.underlying62 hi hz0 hi1 hz2 rfl (by decide) w.heap.size _ m _ (by rfl) (HR5.out.alloc _) ⟨w5.heap.size, 0, none⟩ 1 1 [.string nm, .string s] (by rfl) rfl (attCells w5 nm s) (by intro v hv; simp at hv; rcases hv with rfl | rfl <;> rfl) (by unfold maxLen; omega) (by omega) (by have h1 : w2.heap.size ≤ w5.heap.size := hg5.size; simp; omega) ?_; intro v' w7 hown' hgr hat; obtain ⟨a8, c8, rfl⟩ := owns_slice hown'; have hS7 := hgr.cell (((below1 w5 _).cell (World.block_lt_of_cell? _ _ hS5)).trans hS5) (fun e => HAP.out _ e.symm rfl)))) | fail "NOHELD"
        have hown8 : w7.ownsRow w.heap.size 65 2 (.slice a8 (m + 1) c8) (m + 1) (flatA (es ++ [⟨nm, s⟩])) := by rw [flatA_snoc]; exact hown'
        have hnil8 : a8 = none → c8 = 0 := by
          intro e
          subst e
          rcases hown'.2 with ⟨hv, h0⟩ | ⟨g, cap, cur, hv, _⟩
          · omega
          · cases hv
        have hws5 : w2.heap.size ≤ w5.heap.size := hg5.size
        have hap8 : ∀ g, (Value.slice a8 (m + 1) c8).ownBlock = some g → g ≠ w.heap.size + 1 := by
          intro g hg
          rcases hat with e | e
          · exact HAP.out g (e ▸ hg)
          · rw [e] at hg
            simp at hg
            omega
        have HG7 := Lib.hid (step_appended (grown_trans_row HG2.out (grownDrew hg5)) (Nat.le_refl _) HR5.out hgr)
        have HS7 := Lib.hid ((hsr5.below (below1 w5 (.cells #[.string nm, .string s] 65))).grown hgr (fun g e => by have := (HR5.out.lt g e).1; omega))
        have HWD5 := HWD2.out.grown (grownDrew hg5) hne
        have HWD7 := Lib.hid ((HWD5.grown (World.grownBy_alloc w5 (.cells #[.string nm, .string s] 65) none) (by simp)).grown hgr (fun e => HAP.out _ e.symm rfl))
        have HR8 := Lib.hid hown8
        have HNIL8 := Lib.hid hnil8
        have HAP8 := Lib.hid hap8
        have HL8 : Hid ((es ++ [(⟨nm, s⟩ : At)]).length = m + 1) := Lib.hid (by rw [List.length_append, HL.out]; rfl)
        have HSH8 : Hid (ShortAts (es ++ [(⟨nm, s⟩ : At)])) := Lib.hid (sizes_snoc HSH.out hnm (by omega))
        have hsz7 : w.heap.size + 2 ≤ w7.heap.size := by have := hgr.size; simp at this; omega
        clear hown' hgr hat hown8 hnil8 hap8 HWD5 hsr5 hg5 hS0 hS5 hS7 d1
        go_wp2
        go_roundw
        case rel => exact ⟨j + 1, m + 1, c8, a8, _, k5, by go_num, by omega, rfl, by omega, HL8, HSH8.out, HNIL8.out, by omega, HR8.out, HAP8.out, HS7.out, HG7.out, HWD7.out, hsz7⟩
        case measure => simp [intOf]; omega
    · obtain rfl : j = 5 := by omega
      go_wp2
      go_ret
      exact ⟨x, m, q, es, k', rfl, HROW.out, hm, HL.out, HSH.out, HNIL.out, by omega, HS.out, HG.out⟩
end Go.Proofs.YtcaknhoaoodbfaaGreatDoor
