/- Texts laid together, part 12. -/
import Derived.Test.YtbfjhjkllaceaaaGreatDoorGB11
import Derived.Maps.OwnSet
import Derived.Maps.AppendAt
import Derived.Deep.AppendLies
import Derived.StringKeys
import Derived.Deep.RegionHeld3
import Derived.RangeFuncNested
import Derived.RangeFuncBound
import Derived.RangeFuncCalls
import Derived.RangeFuncLeaves
import Derived.RangeFuncBox
import Derived.Shelf.Abstract
import Derived.Shelf.RegionOpen
import Derived.WalkKit
import Derived.OwnWalkIn
import Derived.TacticsInMore
import Derived.LoopNIn
import Derived.LoopIn

/- A book of texts: a list, and a map of its texts to their places: plain facts, and how it lies in memory. -/
namespace Go.Proofs.YtbfjhjkllaceaaaGreatDoor
open Go.ChangeShapes Go.WideShapes Go.ChangeAt Go.RowKit
set_option linter.unusedVariables false

def tkey (t : ByteArray) : Lit := .string t.data.toList
theorem tkey_is (t : ByteArray) : WideAt.IsKeyLit (tkey t) := by simp [tkey, WideAt.IsKeyLit]
theorem tkey_ne {s t : ByteArray} (h : s ≠ t) : tkey s ≠ tkey t := by
  intro e
  apply h
  unfold tkey at e
  simp only [Lit.string.injEq] at e
  cases s
  cases t
  simp only [ByteArray.mk.injEq]
  exact Array.toList_inj.1 e
theorem strLaw : Maps.Keyed Tryz.prog 9 := Maps.string_keyed Tryz.underlying9
theorem zeroI (w : World) : (zeroValue 2).run Tryz.prog w = .ok (.int .i64 0) w := by kernel_rfl
theorem tkeyOf (t : ByteArray) (h : t.size ≤ maxLen) : keyOf Tryz.prog 9 (.string t) = some (tkey t) := WideMaps.keyOf_string_mk Tryz.underlying9 h

theorem hasIx_old {ts : List ByteArray} {s : ByteArray} (r : List ByteArray) (h : 0 ≤ hasIx ts s) : hasIx (ts ++ r) s = hasIx ts s := by
  unfold hasIx at h ⊢
  by_cases hlt : ts.findIdx (fun x => x.toList == s.toList) < ts.length
  · rw [List.findIdx_append, if_pos hlt, if_pos (by rw [List.length_append]; omega), if_pos hlt]
  · rw [if_neg hlt] at h
    omega
theorem hasIx_new {ts : List ByteArray} {t : ByteArray} (h : ¬ 0 ≤ hasIx ts t) : hasIx (ts ++ [t]) t = ts.length := by
  unfold hasIx at h ⊢
  by_cases hlt : ts.findIdx (fun x => x.toList == t.toList) < ts.length
  · rw [if_pos hlt] at h
    omega
  · rw [List.findIdx_append, if_neg hlt]
    have e : [t].findIdx (fun x => x.toList == t.toList) = 0 := by simp [List.findIdx_cons]
    rw [e]
    simp
theorem hasIx_other {ts : List ByteArray} {s t : ByteArray} (h : ¬ 0 ≤ hasIx ts s) (hne : s ≠ t) : ¬ 0 ≤ hasIx (ts ++ [t]) s := by
  rw [has_iff] at h ⊢
  simp only [List.mem_append, List.mem_cons, List.not_mem_nil, or_false]
  rintro (h1 | h1)
  · exact h h1
  · exact hne h1

/-- the map tells the place of each text -/
structure Places (D : DataW Unit) (ts : List ByteArray) : Prop where
  isMap : Maps.IsMap D
  has : ∀ t, Maps.has D (tkey t) = decide (0 ≤ hasIx ts t)
  at_ : ∀ t, 0 ≤ hasIx ts t → D.atKey (tkey t) (.lit (.int .i64 0)) = .lit (.int .i64 (hasIx ts t))
theorem Places.empty : Places (.map []) [] := by
  refine ⟨Maps.isMap_empty, fun t => ?_, fun t h => ?_⟩
  · have : ¬ 0 ≤ hasIx [] t := by rw [has_iff]; simp
    rw [decide_eq_false this]
    rfl
  · rw [has_iff] at h
    simp at h
theorem Places.add {D : DataW Unit} {ts : List ByteArray} {t : ByteArray} (h : Places D ts) (hn : ¬ 0 ≤ hasIx ts t) : Places (D.put (tkey t) (.lit (.int .i64 (ts.length : Int)))) (ts ++ [t]) := by
  refine ⟨h.isMap.put _ _, fun s => ?_, fun s hs => ?_⟩
  · by_cases e : s = t
    · subst e
      rw [Maps.has_put_same h.isMap (tkey_is s), hasIx_new hn, decide_eq_true (by omega)]
    · rw [Maps.has_put_other (tkey_ne e), h.has s]
      by_cases h0 : 0 ≤ hasIx ts s
      · rw [decide_eq_true h0, hasIx_old _ h0, decide_eq_true h0]
      · rw [decide_eq_false h0, decide_eq_false (hasIx_other h0 e)]
  · by_cases e : s = t
    · subst e
      rw [Maps.atKey_put_same h.isMap (tkey_is s), hasIx_new hn]
    · rw [Maps.atKey_put_other (tkey_ne e)]
      by_cases h0 : 0 ≤ hasIx ts s
      · rw [hasIx_old _ h0]
        exact h.at_ s h0
      · exact absurd hs (hasIx_other h0 e)

/-- a map that is cleared holds nothing -/
theorem ownsMap_cleared {P : Program} {k : TypeId} {R : Value → Option (DataW Unit × List MemPlace)} {w : World} {b n : Nat} {D : DataW Unit} {t e : TypeId} (h : w.ownsMap P k R b n D) (ht : P.underlying t = some (.map k e)) (ty : TypeId) :
    ∃ w', (Builtin.clear_ #[t] ty #[.map (some b)]).run P w = .ok (.tuple #[]) w' ∧ w'.ownsMap P k R b 0 (.map []) ∧ w.mapTurned w' b := by
  obtain ⟨es, clock, hb, F, hs, rfl⟩ := h
  refine ⟨ChangeMaps.setBlock w b (.map #[] clock), ?_, ⟨#[], clock, ChangeMaps.heap_setBlock_same hb _, ⟨by simp, MapKept.stamped_empty clock, by simp⟩, Nat.le_refl _, rfl⟩, ⟨es, clock, #[], clock, hb, rfl⟩⟩
  simp [Builtin.clear_, run_underlying ht, MapKept.run_getObj_map hb, MapKept.run_setObj_map _ hb, ChangeMaps.setBlock, Result.andThen]
theorem wpList_clear_own {P : Program} (w : World) {ops : Array Oper} {rest : List Oper} {o : Oper} {a : Act} {Q : Exit → Act → World → Prop} (hg : o.guard = none) (m : Operand) (t : TypeId)
    (hop : o.op = Op.call { callee := Callee.builtin Builtin.clear, args := #[m], argTypes := #[t] }) (k e : TypeId) (ht : P.underlying t = some (.map k e)) (R : Value → Option (DataW Unit × List MemPlace)) (b n : Nat) (D : DataW Unit)
    (hm : a.eval m = .map (some b)) (hown : w.ownsMap P k R b n D)
    (hK : ∀ w', w'.ownsMap P k R b 0 (.map []) → w.mapTurned w' b → wpList P ops Q rest (a.put o.dst (.tuple #[])) w') :
    wpList P ops Q (o :: rest) a w := by
  refine wpList_plain hg fun K' hK' => ?_
  obtain ⟨w', hrun, r1, r2⟩ := ownsMap_cleared hown ht o.type
  unfold Oper.wp
  simp [execOp, hop, resolve, invoke, builtin, hm, hrun, Result.andThen]
  exact hK' _ _ (hK w' r1 r2)

theorem rowOnly {P : Nat → Prop} {w w' : World} {base : Nat} {e : TypeId} {size : Nat} {v : Value} {n : Nat} {xs : List Value} (h : w.ownsRow base e size v n xs) (ho : Only P w w') (hn : ∀ k, v.ownBlock = some k → ¬ P k) : w'.ownsRow base e size v n xs := by
  refine ⟨h.1, ?_⟩
  rcases h.2 with h2 | ⟨g, cap, cur, hv, hg, hh, hnc, hm, hs, ht⟩
  · exact .inl h2
  · have hk : v.ownBlock = some g := by rw [hv]; rfl
    exact .inr ⟨g, cap, cur, hv, hg, (ho.block g (h.lt g hk).2 (hn g hk)).trans hh, hnc, hm, hs, ht⟩
theorem mapOnly {Q : Nat → Prop} {P : Program} {k : TypeId} {R : Value → Option (DataW Unit × List MemPlace)} {w w' : World} {b n : Nat} {D : DataW Unit} (h : w.ownsMap P k R b n D) (ho : Only Q w w') (hn : ¬ Q b) : w'.ownsMap P k R b n D := by
  have hlt := h.lt
  obtain ⟨es, clock, hb, r⟩ := h
  exact ⟨es, clock, (ho.block b hlt hn).trans hb, r⟩

/-- a book in block b, its map in block m, its list in block g; what lies in no block of K is as it was in w0 -/
structure BookAt (K : Nat → Prop) (w0 w : World) (b m : Nat) (g : Option Nat) (ts : List ByteArray) : Prop where
  lt : b < w.heap.size
  ge : K b
  mge : K m
  on : Only K w0 w
  c0 : ∃ a n c, w.cell? ⟨b, 0, none⟩ = some (.slice a n c) ∧ w.ownsRow w0.heap.size 9 1 (.slice a n c) n (ts.map Value.string) ∧ (Value.slice a n c).ownBlock = g
  c1 : w.cell? ⟨b, 1, none⟩ = some (.map (some m))
  map : ∃ D, w.ownsMap Tryz.prog 9 (plainElem (H := Unit) Tryz.prog 2) m ts.length D ∧ Places D ts
  apart : g ≠ some b ∧ g ≠ some m ∧ m ≠ b
  f0 : w.frozen? ⟨b, 0, none⟩ = false
  f1 : w.frozen? ⟨b, 1, none⟩ = false
/-- the blocks of a book -/
def BookP (b m : Nat) (g : Option Nat) (i : Nat) : Prop := i = b ∨ i = m ∨ some i = g
theorem Only.under2 {K P : Nat → Prop} {w0 w w' : World} (h : Only K w0 w) (ho : Only P w w') (hP : ∀ i, P i → K i ∨ w0.heap.size ≤ i) : Only K w0 w' :=
  ⟨ho.os.trans h.os, ho.tape.trans h.tape, ho.output.trans h.output, Nat.le_trans h.size ho.size, fun i hi hk => (ho.block i (Nat.lt_of_lt_of_le hi h.size) (fun hp => by rcases hP i hp with h1 | h1; exact hk h1; omega)).trans (h.block i hi hk)⟩
theorem Only.grownK {K : Nat → Prop} {w0 w w' : World} {r : Option Nat} (h : Only K w0 w) (hg : w.grownBy w' r) (hr : ∀ k, r = some k → K k ∨ w0.heap.size ≤ k) : Only K w0 w' :=
  ⟨hg.os.trans h.os, hg.tape.trans h.tape, hg.output.trans h.output, Nat.le_trans h.size hg.size, fun i hi hk => (hg.block i (Nat.lt_of_lt_of_le hi h.size) (fun e => by rcases hr i e.symm with h1 | h1; exact hk h1; omega)).trans (h.block i hi hk)⟩
theorem BookAt.only {K P : Nat → Prop} {w0 w w' : World} {b m : Nat} {g : Option Nat} {ts : List ByteArray} (h : BookAt K w0 w b m g ts) (ho : Only P w w') (hn : ∀ i, BookP b m g i → ¬ P i) (hP : ∀ i, P i → K i ∨ w0.heap.size ≤ i) : BookAt K w0 w' b m g ts := by
  obtain ⟨a, n, c, h1, h2, h3⟩ := h.c0
  obtain ⟨D, h4, h5⟩ := h.map
  have hb := hn b (.inl rfl)
  exact ⟨Nat.lt_of_lt_of_le h.lt ho.size, h.ge, h.mge, h.on.under2 ho hP, ⟨a, n, c, (ho.cell (p := ⟨b, 0, none⟩) h.lt hb).trans h1, rowOnly h2 ho (fun k hk => hn k (.inr (.inr (by rw [← h3, hk])))), h3⟩,
    (ho.cell (p := ⟨b, 1, none⟩) h.lt hb).trans h.c1, ⟨D, mapOnly h4 ho (hn m (.inr (.inl rfl))), h5⟩, h.apart, (ho.frozen (p := ⟨b, 0, none⟩) h.lt hb).trans h.f0, (ho.frozen (p := ⟨b, 1, none⟩) h.lt hb).trans h.f1⟩
theorem BookAt.keep {K : Nat → Prop} {w0 w w' : World} {b m : Nat} {g : Option Nat} {ts : List ByteArray} (h : BookAt K w0 w b m g ts) (hb : Below w.heap.size w w') : BookAt K w0 w' b m g ts :=
  h.only (Only.below (P := fun _ => False) hb) (fun _ _ h => h) (fun _ h => h.elim)
/-- the list lies where it lay, or in a new block -/
def NewG (w : World) (g g' : Option Nat) : Prop := g' = g ∨ ∃ k, g' = some k ∧ w.heap.size ≤ k
theorem NewG.same (w : World) (g : Option Nat) : NewG w g g := .inl rfl
theorem NewG.trans {w w' : World} {g g' g'' : Option Nat} (h : NewG w g g') (hs : w.heap.size ≤ w'.heap.size) (k : NewG w' g' g'') : NewG w g g'' := by
  rcases k with rfl | ⟨k, rfl, hk⟩
  · exact h
  · exact .inr ⟨k, rfl, by omega⟩
theorem Only.then {w w' w'' : World} {b m : Nat} {g g' : Option Nat} (h : Only (BookP b m g) w w') (hg : NewG w g g') (k : Only (BookP b m g') w' w'') : Only (BookP b m g) w w'' := by
  refine ⟨k.os.trans h.os, k.tape.trans h.tape, k.output.trans h.output, Nat.le_trans h.size k.size, fun i hi hp => (k.block i (Nat.lt_of_lt_of_le hi h.size) ?_).trans (h.block i hi hp)⟩
  rintro (rfl | rfl | e)
  · exact hp (.inl rfl)
  · exact hp (.inr (.inl rfl))
  · rcases hg with rfl | ⟨k, rfl, hk⟩
    · exact hp (.inr (.inr e))
    · simp only [Option.some.injEq] at e
      omega
theorem Only.grownP {P : Nat → Prop} {w w' : World} {r : Option Nat} (h : w.grownBy w' r) (hp : ∀ k, r = some k → P k) : Only P w w' :=
  ⟨h.os, h.tape, h.output, h.size, fun i hi hn => h.block i hi (fun e => hn (hp i e.symm))⟩

theorem Only.far {P : Nat → Prop} {w w' w'' : World} {r : Option Nat} (h : Only P w w') (k : w'.grownBy w'' r) (hr : ∀ g, r = some g → w.heap.size ≤ g) : Only P w w'' :=
  ⟨k.os.trans h.os, k.tape.trans h.tape, k.output.trans h.output, Nat.le_trans h.size k.size, fun i hi hp => (k.block i (Nat.lt_of_lt_of_le hi h.size) (fun e => by have := hr i e.symm; omega)).trans (h.block i hi hp)⟩

def EmptyRes (w : World) (e : Ending) (w' : World) : Prop :=
  ∃ m, e = .returned (.agg #[.slice none 0 0, .map (some m)]) ∧ w.heap.size ≤ m ∧ m < w'.heap.size ∧ w'.ownsMap Tryz.prog 9 (plainElem (H := Unit) Tryz.prog 2) m 0 (.map []) ∧ Below w.heap.size w w'

set_option maxHeartbeats 800000 in
theorem emptyBook_any (w : World) : Calls Tryz.prog 27 #[] w (EmptyRes w) := by
  have hmm := @run_makeMap Tryz.prog
  go_enter Tryz.func27, Tryz.ntmps27
  go_wp2
  exact bodyPost_ret (v := .agg #[.slice none 0 0, .map (some (w.heap.size + 1))]) (by simp [results, Tryz.results27, go_sem]) rfl
    ⟨_, rfl, by omega, by simp, by
      have h := World.ownsMap_made (w.alloc (.cells #[.slice none 0 0, .map (some (w.heap.size + 1))] 48)) Tryz.prog 9 (plainElem (H := Unit) Tryz.prog 2)
      simpa using h, below2 w _ _⟩

/-- the place of a text is told, and the book has it -/
def PlaceRes (K : Nat → Prop) (w0 w : World) (b m : Nat) (g : Option Nat) (ts : List ByteArray) (t : ByteArray) (e : Ending) (w' : World) : Prop :=
  e = .returned (.int .i64 (hasIx (addT ts t) t)) ∧ ∃ g', BookAt K w0 w' b m g' (addT ts t) ∧ NewG w g g' ∧ Only (BookP b m g) w w'

/-- .. and what lies behind the book in its block is as it was -/
def PlaceAll (K : Nat → Prop) (w0 w : World) (b m : Nat) (g : Option Nat) (ts : List ByteArray) (t : ByteArray) (e : Ending) (w' : World) : Prop :=
  PlaceRes K w0 w b m g ts t e w' ∧ w'.cell? ⟨b, 2, none⟩ = w.cell? ⟨b, 2, none⟩ ∧ w'.frozen? ⟨b, 2, none⟩ = w.frozen? ⟨b, 2, none⟩
theorem same_grown {w w' : World} {r : Option Nat} {b : Nat} (hg : w.grownBy w' r) (hlt : b < w.heap.size) (hne : some b ≠ r) (o : Nat) : w'.cell? ⟨b, o, none⟩ = w.cell? ⟨b, o, none⟩ ∧ w'.frozen? ⟨b, o, none⟩ = w.frozen? ⟨b, o, none⟩ := by
  have := hg.block b hlt hne
  unfold World.cell? World.frozen?
  rw [this]
  exact ⟨rfl, rfl⟩

set_option maxRecDepth 100000 in
set_option maxHeartbeats 1600000 in
theorem placeOf_all (K : Nat → Prop) (w0 : World) (b m : Nat) (g : Option Nat) (ts : List ByteArray) (t : ByteArray) (W : World) (h : BookAt K w0 W b m g ts) (hl : ts.length ≤ 100000) (ht : t.size ≤ 9223372036854775807) :
    Calls Tryz.prog 61 #[.pointer (some ⟨b, 0, none⟩), .string t] W (PlaceAll K w0 W b m g ts t) := by
  obtain ⟨i0, hi, hz0, hz1, hz2⟩ := info_parts strInfo
  have hkey := tkeyOf t (by unfold maxLen; omega)
  obtain ⟨a, n, c, q0, hown, hgb⟩ := h.c0
  have q1 := h.c1
  have hlt := h.lt
  obtain ⟨D, hmap, hp⟩ := h.map
  have f0 := h.f0
  have HB := Lib.hid h
  have HOWN := Lib.hid hown
  have HN := Lib.hid (ownsS_length hown)
  have HMAP := Lib.hid hmap
  have HP := Lib.hid hp
  have HG := Lib.hid hgb
  have HKEY := Lib.hid hkey
  have hn1 : n ≤ 100000 := by have := HN.out; omega
  unfold PlaceAll PlaceRes
  by_cases hx : 0 ≤ hasIx ts t
  · rw [hasIx_pos hx]
    have hhas : Maps.has D (tkey t) = true := by rw [hp.has, decide_eq_true hx]
    have HAT := Lib.hid (hp.at_ t hx)
    have HH := Lib.hid hhas
    clear h hown hmap hp hgb hkey hhas
    go_enter Tryz.func61, Tryz.ntmps61
    go_wp2_with (at_lookup; refine wpList_lookup_own_ok_int _ rfl _ _ 46 rfl 9 2 .i64 strLaw Tryz.underlying46 Tryz.underlying2 (zeroI _) m _ D rfl HMAP.out _ _ rfl HKEY.out ?_; intro v hat hwc; rw [HH.out]; have hv := hat.symm.trans HAT.out; have HV : Hid (v = hasIx ts t) := Lib.hid (by simpa using hv); clear hat hwc hv)
    have hv := HV.out
    subst hv
    go_ret
    exact ⟨⟨rfl, g, HB.out, NewG.same _ _, Only.refl _⟩, rfl, rfl⟩
  · rw [hasIx_neg hx]
    have hhas : Maps.has D (tkey t) = false := by rw [hp.has, decide_eq_false hx]
    have HH := Lib.hid hhas
    have HX := Lib.hid (hasIx_new hx)
    have HA := Lib.hid (hp.add hx)
    clear h hown hmap hp hgb hkey hhas
    go_enter Tryz.func61, Tryz.ntmps61
    go_wp2_with (first
      | (at_lookup; refine wpList_lookup_own_ok_int _ rfl _ _ 46 rfl 9 2 .i64 strLaw Tryz.underlying46 Tryz.underlying2 (zeroI _) m _ D rfl HMAP.out _ _ rfl HKEY.out ?_; intro v hat hwc; rw [HH.out]; clear hat hwc)
      | (at_mapUpdate; refine wpList_mapUpdate_own _ rfl _ _ _ 46 rfl 9 2 strLaw Tryz.underlying46 _ m ts.length D rfl HMAP.out (by unfold maxLen; omega) _ _ _ rfl rfl HKEY.out _ [] (plainElem_int Tryz.underlying2 (WalkArith.wf_i64 (by omega))) ?_))
    intro w1 hown1 hgrow1
    have hap := HB.out.apart
    have hbm : some b ≠ some m := fun e => hap.2.2 (Option.some.inj e).symm
    have hgm : (Value.slice a n c).ownBlock ≠ some m := by rw [HG.out]; exact hap.2.1
    have hgb : (Value.slice a n c).ownBlock ≠ some b := by rw [HG.out]; exact hap.1
    have HO1 := Lib.hid (row_kept HOWN.out hgrow1 hgm)
    have p0 := hgrow1.cell (a := ⟨b, 0, none⟩) q0 hbm
    have p1 := hgrow1.cell (a := ⟨b, 1, none⟩) q1 hbm
    have pf0 := (hgrow1.frozen_far ⟨b, 0, none⟩ hlt hbm).trans f0
    have pf1 := (hgrow1.frozen_far ⟨b, 1, none⟩ hlt hbm).trans HB.out.f1
    have hlt1 : b < w1.heap.size := Nat.lt_of_lt_of_le hlt hgrow1.size
    have HM1 := Lib.hid hown1
    have HG1 := Lib.hid hgrow1
    have HB1 := Lib.hid (HB.out.on.grownK hgrow1 (fun k hk => by cases hk; exact .inl HB.out.mge))
    have HPF1 := Lib.hid pf1
    clear hown1 hgrow1 q0 q1 f0 pf1
    go_wp2_with (at_builtin; refine wpList_append_own_at _ rfl _ _ 33 rfl w0.heap.size 9 i0 (.string ByteArray.empty) 1 16 Tryz.underlying33 hi hz0 hz1 hz2 rfl (by decide) _ n _ rfl (HO1.out.alloc _) ⟨w1.heap.size, 0, none⟩ 1 1 [.string t] rfl rfl ?c1 ?c2 ?c3 ?c4 ?c5 ?_)
    case c1 => exact strCells1 w1 t
    case c2 => intro v hv; simp at hv; subst hv; rfl
    case c3 => unfold maxLen; omega
    case c4 => omega
    case c5 => have := HB1.out.size; simp; omega
    intro v' w3 hown' hgrow _ hat
    obtain ⟨a4, c4, rfl⟩ := owns_slice hown'
    have hown' : w3.ownsRow w0.heap.size 9 1 (.slice a4 (n + 1) c4) (n + 1) ((ts ++ [t]).map Value.string) := by rw [List.map_append]; exact hown'
    have hne4 : (Value.slice a4 (n + 1) c4).ownBlock ≠ some b ∧ (Value.slice a4 (n + 1) c4).ownBlock ≠ some m := by
      have hm1 := HM1.out.lt
      rcases hat with e | e
      · rw [e]; exact ⟨hgb, hgm⟩
      · rw [e]
        constructor
        · intro e2
          simp at e2
          omega
        · intro e2
          simp at e2
          omega
    have hbg : some b ≠ (Value.slice a n c).ownBlock := Ne.symm hgb
    have hmg : some m ≠ (Value.slice a n c).ownBlock := Ne.symm hgm
    have hla : b < (w1.alloc (Obj.cells #[Value.string t] 9)).heap.size := by simp; omega
    have z0 := hgrow.cell (a := ⟨b, 0, none⟩) (((below1 w1 _).cell (by exact hlt1)).trans p0) hbg
    have z1 := hgrow.cell (a := ⟨b, 1, none⟩) (((below1 w1 _).cell (by exact hlt1)).trans p1) hbg
    have zf0 := (hgrow.frozen_far ⟨b, 0, none⟩ hla hbg).trans (((below1 w1 _).frozen (by exact hlt1)).trans pf0)
    have zf1 := (hgrow.frozen_far ⟨b, 1, none⟩ hla hbg).trans (((below1 w1 _).frozen (by exact hlt1)).trans HPF1.out)
    have hlt3 : b < w3.heap.size := Nat.lt_of_lt_of_le hla hgrow.size
    have HM3 := Lib.hid ((HM1.out.alloc _).kept hgrow hmg)
    have HB3 := Lib.hid ((HB1.out.trans (Only.below (below1 w1 _))).grownK hgrow (fun k hk => .inr (HO1.out.lt k hk).1))
    have HSM : Hid (w3.cell? ⟨b, 2, none⟩ = W.cell? ⟨b, 2, none⟩ ∧ w3.frozen? ⟨b, 2, none⟩ = W.frozen? ⟨b, 2, none⟩) := Lib.hid (by
      have k1 := same_grown HG1.out hlt hbm 2
      have k2 := same_grown (World.grownBy_alloc w1 (Obj.cells #[Value.string t] 9) none) hlt1 (by simp) 2
      have k3 := same_grown hgrow hla hbg 2
      exact ⟨k3.1.trans (k2.1.trans k1.1), k3.2.trans (k2.2.trans k1.2)⟩)
    have HNG : Hid (NewG W g (Value.slice a4 (n + 1) c4).ownBlock) := Lib.hid (by
      rcases hat with e | e
      · left; rw [e]; exact HG.out
      · right
        exact ⟨_, e, by have := HG1.out.size; simp; omega⟩)
    have HON : Hid (Only (BookP b m g) W w3) := Lib.hid (by
      have o1 : Only (BookP b m g) W w1 := Only.grownP HG1.out (fun k hk => by cases hk; exact .inr (.inl rfl))
      have o2 : Only (BookP b m g) w1 (w1.alloc (Obj.cells #[Value.string t] 9)) := Only.below (below1 w1 _)
      have o3 : Only (BookP b m g) (w1.alloc (Obj.cells #[Value.string t] 9)) w3 := Only.grownP hgrow (fun k hk => .inr (.inr (by rw [← hk]; exact HG.out.symm ▸ rfl)))
      exact (o1.trans o2).trans o3)
    have HO3 := Lib.hid hown'
    have HNE := Lib.hid hne4
    have HN3 : Hid (n + 1 = (ts ++ [t]).length) := Lib.hid (by have := HN.out; simp; omega)
    clear hown' hgrow hat hne4 p0 p1 pf0 hla
    go_wp2
    go_ret
    have hix : ((n : Int)) = hasIx (ts ++ [t]) t := by rw [HX.out, HN.out]
    refine ⟨⟨ret_i hix, _, ⟨by simpa using hlt3, HB.out.ge, HB.out.mge, HB3.out.trans (Only.set w3 _ _ HB.out.ge), ⟨a4, n + 1, c4, set_at z0, row_kept HO3.out (grown_set _ _ _) HNE.out.1, rfl⟩, set_oth (by decide) z1,
      ⟨_, (World.ownsMap.setCell (by have := HM3.out; rw [List.length_append]; exact this) (a := ⟨b, 0, none⟩) hap.2.2 _), by have := HA.out; rwa [← HN.out] at this⟩, ⟨HNE.out.1, HNE.out.2, hap.2.2⟩, by rw [World.frozen?_setCell]; exact zf0, by rw [World.frozen?_setCell]; exact zf1⟩, HNG.out, HON.out.trans (Only.set w3 _ _ (.inl rfl))⟩, (cell_oth _ _ _ _ _ (by decide)).trans HSM.out.1, by rw [World.frozen?_setCell]; exact HSM.out.2⟩
theorem placeOf_any (K : Nat → Prop) (w0 : World) (b m : Nat) (g : Option Nat) (ts : List ByteArray) (t : ByteArray) (W : World) (h : BookAt K w0 W b m g ts) (hl : ts.length ≤ 100000) (ht : t.size ≤ 9223372036854775807) :
    Calls Tryz.prog 61 #[.pointer (some ⟨b, 0, none⟩), .string t] W (PlaceRes K w0 W b m g ts t) := (placeOf_all K w0 b m g ts t W h hl ht).mono fun _ _ h => h.1
end Go.Proofs.YtbfjhjkllaceaaaGreatDoor

/- The program's numbers of attributes. -/
namespace Go.Proofs.YtbfjhjkllaceaaaGreatDoor
open Go.ChangeShapes Go.WideShapes Go.ChangeAt Go.RowKit
set_option linter.unusedVariables false

/-- what stands for attributes, for an item, for items behind the strings -/
def numAt (F : List ByteArray) (a : At) : List Int := [hasIx F a.name, hasIx F a.value]
def numAts (F : List ByteArray) (l : List At) : List Int := (l.length : Int) :: l.flatMap (numAt F)
def numIt (F : List ByteArray) (x : It) : List Int := x.depth :: (if x.name.toList.isEmpty then [0, hasIx F x.text] else [1, hasIx F x.space, hasIx F x.name] ++ numAts F x.attrs)
def numIts (F : List ByteArray) (l : List It) : List Int := (l.length : Int) :: l.flatMap (numIt F)
/-- F has all that o has, where o has it -/
def Ext (o F : List ByteArray) : Prop := ∃ r, F = o ++ r
theorem Ext.refl (o : List ByteArray) : Ext o o := ⟨[], by simp⟩
theorem Ext.trans {a b c : List ByteArray} (h : Ext a b) (k : Ext b c) : Ext a c := by
  obtain ⟨r, rfl⟩ := h
  obtain ⟨s, rfl⟩ := k
  exact ⟨r ++ s, by simp⟩
theorem Ext.add (o : List ByteArray) (t : ByteArray) : Ext o (addT o t) := by
  unfold addT
  split
  · exact Ext.refl _
  · exact ⟨[t], rfl⟩
theorem Ext.ats (l : List At) : ∀ o, Ext o (strsAts o l) := by
  induction l with
  | nil => intro o; exact Ext.refl _
  | cons a l ih =>
    intro o
    have h := ih (addT (addT o a.name) a.value)
    unfold strsAts at h ⊢
    rw [List.foldl_cons]
    exact (Ext.add o a.name).trans ((Ext.add _ a.value).trans h)
theorem Ext.it (o : List ByteArray) (x : It) : Ext o (strsIt o x) := by
  unfold strsIt
  split
  · exact Ext.add _ _
  · exact (Ext.add o x.space).trans ((Ext.add _ x.name).trans (Ext.ats _ _))
theorem Ext.its (l : List It) : ∀ o, Ext o (l.foldl strsIt o) := by
  induction l with
  | nil => intro o; exact Ext.refl _
  | cons a l ih =>
    intro o
    rw [List.foldl_cons]
    exact (Ext.it o a).trans (ih _)
theorem Ext.ats_take (o : List ByteArray) (l : List At) (k : Nat) : Ext (strsAts o (l.take k)) (strsAts o l) := by
  have h := Ext.ats (l.drop k) (strsAts o (l.take k))
  unfold strsAts at h ⊢
  rw [← List.foldl_append, List.take_append_drop] at h
  exact h
theorem Ext.its_take (l : List It) (k : Nat) : Ext (strsOf (l.take k)) (strsOf l) := by
  have h := Ext.its (l.drop k) (strsOf (l.take k))
  unfold strsOf at h ⊢
  rw [← List.foldl_append, List.take_append_drop] at h
  exact h
theorem addT_has (o : List ByteArray) (t : ByteArray) : 0 ≤ hasIx (addT o t) t := has_iff.2 (mem_addT.2 (.inr rfl))
/-- the place of what was met stays -/
theorem Ext.place {o F : List ByteArray} {t : ByteArray} (h : Ext (addT o t) F) : hasIx (addT o t) t = hasIx F t := by
  obtain ⟨r, rfl⟩ := h
  exact (hasIx_old r (addT_has o t)).symm
theorem numAts_succ (F : List ByteArray) (l : List At) (k : Nat) (h : k < l.length) : (l.take (k + 1)).flatMap (numAt F) = (l.take k).flatMap (numAt F) ++ [hasIx F (l.getD k dAt).name, hasIx F (l.getD k dAt).value] := by
  rw [List.take_succ_eq_append_getElem h, List.flatMap_append, List.getD_eq_getElem?_getD, List.getElem?_eq_getElem h]
  simp [numAt]
theorem numAt_len (F : List ByteArray) (l : List At) : (l.flatMap (numAt F)).length = 2 * l.length := by
  induction l with
  | nil => simp
  | cons a t ih =>
    rw [List.flatMap_cons, List.length_append, ih, List.length_cons]
    simp [numAt]
    omega

theorem numInfo : (Tryz.prog.info? 2).map (fun i => (i.zero, i.size, i.bytes)) = some (some (.int .i64 0), 1, 8) := by kernel_rfl
/-- a row of numbers that shares no block with the book -/
def Apart (v : Value) (b m : Nat) (g : Option Nat) : Prop := ∀ k, v.ownBlock = some k → ¬ BookP b m g k
/-- numbers are handed back, and the book has grown -/
def NumsRes (K : Nat → Prop) (w0 w : World) (b m : Nat) (g : Option Nat) (o : List ByteArray) (ns : List Int) (e : Ending) (w' : World) : Prop :=
  ∃ a n c g', e = .returned (.slice a n c) ∧ w'.ownsRow w.heap.size 2 1 (.slice a n c) n (ns.map (Value.int .i64)) ∧ Apart (.slice a n c) b m g' ∧ BookAt K w0 w' b m g' o ∧ NewG w g g' ∧ Only (BookP b m g) w w'
theorem cells2 (W : World) (T : TypeId) (u v : Value) (j : Nat) (z : Value) (hj : [u, v][j]? = some z) : ((W.alloc (.cells #[u, v] T))).cell? (Addr.add ⟨W.heap.size, 0, none⟩ j) = some z := by
  match j, hj with
  | 0, hj => simp at hj; subst hj; simp [Addr.add]
  | 1, hj => simp at hj; subst hj; simp [Addr.add]
theorem BookAt.notNew {K : Nat → Prop} {w0 w : World} {b m : Nat} {g : Option Nat} {ts : List ByteArray} (h : BookAt K w0 w b m g ts) {i : Nat} (hi : w.heap.size ≤ i) : ¬ BookP b m g i := by
  rintro (rfl | rfl | e)
  · have := h.lt; omega
  · obtain ⟨D, hm, _⟩ := h.map
    have := hm.lt
    omega
  · obtain ⟨a, n, c, h1, h2, h3⟩ := h.c0
    have := (h2.lt i (by rw [h3, ← e])).2
    omega
theorem NewG.notP {w : World} {b m i : Nat} {g g' : Option Nat} (h : NewG w g g') (hi : i < w.heap.size) (hn : ¬ BookP b m g i) : ¬ BookP b m g' i := by
  rcases h with rfl | ⟨k, rfl, hk⟩
  · exact hn
  · rintro (rfl | rfl | e)
    · exact hn (.inl rfl)
    · exact hn (.inr (.inl rfl))
    · simp only [Option.some.injEq] at e
      omega
theorem Only.two {P : Nat → Prop} {w w' : World} {p q : Addr} {u v : Value} (h : Only P w w') (hp : ¬ P p.block) (hq : ¬ P q.block) (h1 : w.cell? p = some u ∧ w.cell? q = some v) : w'.cell? p = some u ∧ w'.cell? q = some v :=
  ⟨(h.cell (World.block_lt_of_cell? w _ h1.1) hp).trans h1.1, (h.cell (World.block_lt_of_cell? w _ h1.2) hq).trans h1.2⟩
theorem two_alloc {w : World} {o : Obj} {p q : Addr} {u v : Value} (h : w.cell? p = some u ∧ w.cell? q = some v) : (w.alloc o).cell? p = some u ∧ (w.alloc o).cell? q = some v :=
  ⟨((below1 w o).cell (World.block_lt_of_cell? w _ h.1)).trans h.1, ((below1 w o).cell (World.block_lt_of_cell? w _ h.2)).trans h.2⟩
theorem Apart.newG {w : World} {b m : Nat} {g g' : Option Nat} {v : Value} (h : Apart v b m g) (hn : NewG w g g') (hlt : ∀ k, v.ownBlock = some k → k < w.heap.size) : Apart v b m g' := fun k hk => hn.notP (hlt k hk) (h k hk)
theorem BookAt.far {K : Nat → Prop} {w0 w w' : World} {b m : Nat} {g : Option Nat} {ts : List ByteArray} {v : Value} (h : BookAt K w0 w b m g ts) (hg : w.grownBy w' v.ownBlock) (ha : Apart v b m g) (hr : ∀ k, v.ownBlock = some k → w0.heap.size ≤ k) : BookAt K w0 w' b m g ts :=
  h.only (P := fun i => some i = v.ownBlock) (Only.grownP hg fun k hk => hk.symm) (fun i hi e => ha i e.symm hi) (fun i e => .inr (hr i e.symm))
theorem Apart.grown {w : World} {b m : Nat} {g : Option Nat} {v v' : Value} (h : Apart v b m g) (hb : ∀ i, w.heap.size ≤ i → ¬ BookP b m g i) (hat : v'.ownBlock = v.ownBlock ∨ v'.ownBlock = some w.heap.size) : Apart v' b m g := by
  intro k hk
  rcases hat with e | e
  · exact h k (e ▸ hk)
  · rw [e] at hk
    simp only [Option.some.injEq] at hk
    exact hb k (by omega)

set_option maxRecDepth 100000 in
set_option maxHeartbeats 3200000 in
theorem numbersOfAttrs_any (K : Nat → Prop) (w0 : World) (b m : Nat) (g : Option Nat) (o F : List ByteArray) (a : Option Addr) (n c : Nat) (l : List At) (w : World) (h : BookAt K w0 w b m g o) (hl : AtsAt w0 a n c l) (hfar : ∀ x, a = some x → n ≠ 0 → ¬ K x.block) (h5 : n ≤ 5) (ho : o.length ≤ 50000) (hF : Ext (strsAts o l) F) :
    Calls Tryz.prog 65 #[.pointer (some ⟨b, 0, none⟩), .slice a n c] w (NumsRes K w0 w b m g (strsAts o l) (numAts F l)) := by
  obtain ⟨i0, hi, hz0, hz1, hz2⟩ := info_parts numInfo
  unfold NumsRes
  have KP := Lib.hid (fun (g : Option Nat) (ts : List ByteArray) (t : ByteArray) (W : World) (h : BookAt K w0 W b m g ts) (hl : ts.length ≤ 100000) (ht : t.size ≤ 9223372036854775807) => placeOf_any K w0 b m g ts t W h hl ht)
  unfold PlaceRes at KP
  have HAT := Lib.hid hl
  have HLN := Lib.hid hl.len
  have HF := Lib.hid hF
  have HFAR := Lib.hid hfar
  have HB := Lib.hid h
  have hlit := Lib.hid (lit_owns w 2 .i64 [(n : Int)] 1 (by simp) (by decide))
  clear h hl hF hfar
  go_enter Tryz.func65, Tryz.ntmps65
  go_wp2
  go_loopw [5, 13] (fun v i wr => ∃ (k : Nat) (x : Option Addr) (q : Nat) (gr : Option Nat) (ok : List ByteArray), i = .int .i64 k ∧ k ≤ n ∧ v = .slice x (1 + 2 * k) q ∧ Hid (ok = strsAts o (l.take k)) ∧ ok.length ≤ 50000 + 2 * k ∧ wr.ownsRow w.heap.size 2 1 (.slice x (1 + 2 * k) q) (1 + 2 * k) (((n : Int) :: (l.take k).flatMap (numAt F)).map (Value.int .i64)) ∧ Apart (.slice x (1 + 2 * k) q) b m gr ∧ BookAt K w0 wr b m gr ok ∧ NewG w g gr ∧ Only (BookP b m g) w wr) (fun _ i _ => n - (intOf i).toNat)
  case atStart => exact ⟨0, _, _, g, o, rfl, Nat.zero_le _, rfl, Lib.hid (by simp [strsAts]), by omega, by simpa using hlit.out, fun k hk => HB.out.notNew (by simp [Value.ownBlock] at hk; omega), HB.out.keep (below1 w _), NewG.same _ _, Only.below (below1 w _)⟩
  case round =>
    obtain ⟨k, x, q, gr, ok, rfl, hk, rfl, HOK, hol, hrow, hap, hbk, hng, hon⟩ := hrel
    have HROW := Lib.hid hrow
    have HAP := Lib.hid hap
    have HBK := Lib.hid hbk
    have HNG := Lib.hid hng
    have HON := Lib.hid hon
    clear hrow hap hbk hng hon
    by_cases hlt : k < n
    · obtain ⟨b7, of7, rfl, hb7, hc7⟩ := HAT.out.row.resolve_left (by omega)
      have hs := strsAts_succ o l k (by rw [HLN.out]; exact hlt)
      have hns := numAts_succ F l k (by rw [HLN.out]; exact hlt)
      have hex := (Ext.ats_take o l (k + 1)).trans HF.out
      rw [hs, ← HOK.out] at hex
      have HSUC : Hid (addT (addT ok (l.getD k dAt).name) (l.getD k dAt).value = strsAts o (l.take (k + 1))) := Lib.hid (by rw [hs, ← HOK.out])
      have w7 := (hc7 k hlt).1
      have w8 := (hc7 k hlt).2
      have hsz := HAT.out.size k
      generalize l.getD k dAt = z at hns hex HSUC w7 w8 hsz
      obtain ⟨zn, zv⟩ := z
      dsimp only at hns hex HSUC w7 w8 hsz
      have HNS := Lib.hid hns
      have hp1 : hasIx (addT ok zn) zn = hasIx F zn := ((Ext.add _ zv).trans hex).place
      have hp2 : hasIx (addT (addT ok zn) zv) zv = hasIx F zv := hex.place
      have hal1 := addT_length ok zn
      have hal2 := addT_length (addT ok zn) zv
      have hnk := HFAR.out _ rfl (by omega)
      have d7 := (HBK.out.on.cell (p := ⟨b7, of7 + k * 2, none⟩) hb7 hnk).trans w7
      have d8 := (HBK.out.on.cell (p := ⟨b7, of7 + k * 2 + 1, none⟩) hb7 hnk).trans w8
      clear hnk
      have k7 : (k : Int) < (n : Int) := by omega
      have HP1 := Lib.hid hp1
      have HP2 := Lib.hid hp2
      clear hc7 hs hns hex hp1 hp2 w7 w8
      go_wp2
      have hlw : wr.heap.size < (wr.alloc (.cells #[.string zn, .string zv] 73)).drew.heap.size := by simp
      have hnp := HBK.out.notNew (Nat.le_refl _)
      have HNP := Lib.hid hnp
      have HNR : Hid (some wr.heap.size ≠ (Value.slice x (1 + 2 * k) q).ownBlock) := Lib.hid (fun e => by have := (HROW.out.lt _ e.symm).2; omega)
      have hS4 : (wr.alloc (.cells #[.string zn, .string zv] 73)).drew.cell? ⟨wr.heap.size, 0, none⟩ = some (.string zn) ∧ (wr.alloc (.cells #[.string zn, .string zv] 73)).drew.cell? ⟨wr.heap.size, 1, none⟩ = some (.string zv) := ⟨by simp, by simp⟩
      have HB4 := Lib.hid ((HBK.out.keep (below1 wr (.cells #[.string zn, .string zv] 73))).keep ((Below.refl _ _).drew))
      have HR4 := Lib.hid (ownsDrew (owns_below HROW.out (below1 wr (.cells #[.string zn, .string zv] 73))))
      have HO4 : Hid (Only (BookP b m g) w (wr.alloc (.cells #[.string zn, .string zv] 73)).drew) := Lib.hid ((HON.out.trans (Only.below (below1 wr _))).trans (Only.below ((Below.refl _ _).drew)))
      have hws : w.heap.size ≤ wr.heap.size := HON.out.size
      clear hnp
      first | (go_region_held3 (fun W => W.cell? ⟨wr.heap.size, 0, none⟩ = some (.string zn) ∧ W.cell? ⟨wr.heap.size, 1, none⟩ = some (.string zv)) (first | assumption | exact two_alloc (by assumption))
        (first
          | (go_at_call 61; (with_reducible refine (KP.out gr ok zn _ HB4.out (by omega) hsz.1).mono ?_); rintro e w5 ⟨rfl, g5, hb5, hn5, ho5⟩; have hS5 := ho5.two HNP.out HNP.out hS4)
          | (go_at_call 61; (with_reducible refine (KP.out _ (addT ok zn) zv _ (by assumption) ?_ hsz.2).mono ?_); omega; rintro e w6 ⟨rfl, g6, hb6, hn6, ho6⟩; have hS6 := ho6.two (hn5.notP hlw HNP.out) (hn5.notP hlw HNP.out) hS5; have HAP5 := Lib.hid (HAP.out.newG hn5 (fun k hk => (HR4.out.lt k hk).2)); have HR5 := Lib.hid (rowOnly HR4.out ho5 HAP.out); have HR6 := Lib.hid (rowOnly HR5.out ho6 HAP5.out); have HAP6 := Lib.hid (HAP5.out.newG hn6 (fun k hk => (HR5.out.lt k hk).2)); have HWS6 := Lib.hid (Nat.le_trans HO4.out.size (Nat.le_trans ho5.size ho6.size)))
          | (refine step_own_at (by rfl) _ _ 58 rfl 2 i0 (.int .i64 0) 1 8 Tryz.underlying58 hi hz0 hz1 hz2 rfl (by decide) w.heap.size _ (1 + 2 * k) _ (by rfl) (HR6.out.alloc _) ⟨w6.heap.size, 0, none⟩ 2 2 (List.map (Value.int .i64) [hasIx (addT ok zn) zn, hasIx (addT (addT ok zn) zv) zv]) (by rfl) rfl (cells2 w6 _ _ _) (ints_one _ _) (by unfold maxLen; omega) (by omega) (by have := HWS6.out; simp; omega) ?_; intro v' w7 hown' hgr hat; obtain ⟨a3, c3, rfl⟩ := owns_slice hown'; have hS7 := And.intro (hgr.cell (two_alloc hS6).1 HNR.out) (hgr.cell (two_alloc hS6).2 HNR.out)))) | fail "NOHELD"
      have hrow7 : w7.ownsRow w.heap.size 2 1 (.slice a3 (1 + 2 * k + 2) c3) (1 + 2 * k + 2) (((n : Int) :: (l.take (k + 1)).flatMap (numAt F)).map (Value.int .i64)) := by
        rw [HNS.out, ← HP1.out, ← HP2.out, ← List.cons_append, List.map_append]
        exact hown'
      have HR7 := Lib.hid hrow7
      have hw0 : w0.heap.size ≤ w.heap.size := HB.out.on.size
      have HB7 := Lib.hid ((hb6.keep (below1 w6 _)).far hgr HAP6.out (fun k hk => Nat.le_trans hw0 (HR6.out.lt k hk).1))
      have HA7 := Lib.hid (HAP6.out.grown (fun i hi => (hb6.keep (below1 w6 _)).notNew hi) hat)
      have HN5 := Lib.hid (HNG.out.trans HO4.out.size hn5)
      have HN7 := Lib.hid (HN5.out.trans (Nat.le_trans HO4.out.size ho5.size) hn6)
      have HO7 := Lib.hid ((((HO4.out.then HNG.out ho5).then HN5.out ho6).trans (Only.below (below1 w6 _))).far hgr (fun k hk => (HR6.out.lt k hk).1))
      have hol7 : (addT (addT ok zn) zv).length ≤ 50000 + 2 * (k + 1) := by omega
      clear hb5 hb6 hn5 hn6 ho5 ho6 hgr hown' hat hrow7 hS4 hS5 hS6 hS7
      go_wp2
      go_roundw
      case rel => exact ⟨k + 1, a3, c3, g6, _, by go_num, by omega, rfl, HSUC, hol7, HR7.out, HA7.out, HB7.out, HN7.out, HO7.out⟩
      case measure => simp [intOf]; omega
    · obtain rfl : k = n := by omega
      have hok := HOK.out
      rw [← HLN.out, List.take_length] at hok
      have HOK2 := Lib.hid hok
      have hrow := HROW.out
      rw [show l.take k = l by rw [← HLN.out, List.take_length]] at hrow
      have HR7 := Lib.hid hrow
      clear hok hrow
      go_wp2
      go_ret
      refine ⟨x, 1 + 2 * k, q, gr, rfl, ?_, HAP.out, by rw [← HOK2.out]; exact HBK.out, HNG.out, HON.out⟩
      unfold numAts
      rw [HLN.out]
      exact HR7.out
end Go.Proofs.YtbfjhjkllaceaaaGreatDoor

/- The iterator over the points of a text. -/
namespace Go.Proofs.YtbfjhjkllaceaaaGreatDoor
open Go.RowKit Go.Shelf
set_option linter.unusedVariables false

attribute [local go_sem] Oper.semAt_some

/-- the two tables' variables lie below B -/
structure GsLt (B : Nat) : Prop where
  a : 1 < B
  b : 2 < B
theorem GsLt.mono {B B' : Nat} (h : GsLt B) (hle : B ≤ B') : GsLt B' := ⟨Nat.lt_of_lt_of_le h.a hle, Nat.lt_of_lt_of_le h.b hle⟩
abbrev Tabs (w : World) : Prop := Lib.Utf8Tabs 1 2 w
theorem cell_some_lt {w : World} {a : Addr} {v : Value} (h : w.cell? a = some v) : a.block < w.heap.size := by
  unfold World.cell? at h
  rcases Nat.lt_or_ge a.block w.heap.size with h1 | h1
  · exact h1
  · rw [Array.getElem?_eq_none h1] at h
    simp at h
theorem gs_of_tabs {w : World} (h : Tabs w) : GsLt w.heap.size :=
  ⟨cell_some_lt (h.1 0 (by decide)), cell_some_lt (h.2 0 (by decide)).1⟩
theorem tabs_below {B : Nat} {w w' : World} (h : Tabs w) (hb : Below B w w') (hB : GsLt B) : Tabs w' :=
  ⟨fun c hc => (hb.cell (p := ⟨1, c, none⟩) hB.a).trans (h.1 c hc),
   fun i hi => ⟨(hb.cell (p := ⟨2, 2 * i, none⟩) hB.b).trans (h.2 i hi).1, (hb.cell (p := ⟨2, 2 * i + 1, none⟩) hB.b).trans (h.2 i hi).2⟩⟩
/-- the tables stay, whatever is made behind them -/
theorem tabs_kept {w w' : World} (h : Tabs w) (hb : Below w.heap.size w w') : Tabs w' := tabs_below h hb (gs_of_tabs h)

theorem decodeGo_L (u : ByteArray) (h : 0 < u.size) : Lib.decodeGo u = Lib.decodeL u.data.toList := by
  unfold Lib.decodeGo
  rw [if_neg (by omega)]
  have := Lib.decodeL_drop u 0
  rw [List.drop_zero] at this
  exact this.symm
theorem decodeL_bound (l : List UInt8) : (Lib.decodeL l).1 ≤ 1114111 := by
  rw [Lib.decodeL_N]
  have k0 := (l.getD 0 0).toNat_lt
  have k1 := (l.getD 1 0).toNat_lt
  have k2 := (l.getD 2 0).toNat_lt
  have k3 := (l.getD 3 0).toNat_lt
  rcases Lib.decodeN_shape l.length (l.getD 0 0).toNat (l.getD 1 0).toNat (l.getD 2 0).toNat (l.getD 3 0).toNat with ⟨c, e⟩ | ⟨c1, c2, c3, cv, e⟩ | ⟨c1, c2, c3, c4, cv, cs, e⟩ | ⟨c1, c2, c3, c4, c5, cv, cw, e⟩ | e
  all_goals (rw [e]; dsimp only; omega)

/-- the decoding of what stands at a place -/
theorem decode_at' (s : ByteArray) (pos : Nat) (hp : pos < s.size) (w : World) (hT : Tabs w) :
    Calls Tryz.prog 116 #[.string (s.extract pos s.size)] w fun e w' =>
      e = .returned (.tuple #[.int .i32 ((Lib.decodeL (s.data.toList.drop pos)).1 : Int), .int .i64 ((Lib.decodeL (s.data.toList.drop pos)).2 : Int)]) ∧ Below w.heap.size w w' := by
  have h := Tryz.utf8_DecodeRuneInString (s.extract pos s.size) w hT
  rw [decodeGo_L _ (by rw [ByteArray.size_extract]; omega), Lib.extract_to_end] at h
  exact h

/-- what a round keeps: all below n₀, and the text's box -/
structure KpT (n₀ Bs : Nat) (W W' : World) : Prop where
  bel : Below n₀ W W'
  box : W'.heap[Bs]? = W.heap[Bs]?
theorem KpT.refl (n₀ Bs : Nat) (W : World) : KpT n₀ Bs W W := ⟨Below.refl _ _, rfl⟩
theorem KpT.trans {n₀ Bs : Nat} {A B C : World} (h : KpT n₀ Bs A B) (k : KpT n₀ Bs B C) : KpT n₀ Bs A C := ⟨h.bel.trans k.bel, k.box.trans h.box⟩
theorem KpT.of_below {n₀ Bs : Nat} {W W' : World} (h : Below W.heap.size W W') (hn : n₀ ≤ W.heap.size) (hB : Bs < W.heap.size) : KpT n₀ Bs W W' := ⟨h.mono hn, h.block Bs hB⟩
theorem KpT.cell {n₀ Bs : Nat} {W W' : World} (h : KpT n₀ Bs W W') (o : Nat) : W'.cell? ⟨Bs, o, none⟩ = W.cell? ⟨Bs, o, none⟩ := World.cell?_of_block (w := W) h.box
theorem kpT_b {n₀ Bs : Nat} {w : World} (hn : n₀ ≤ w.heap.size) (hB : Bs < w.heap.size) (W : World) (l : Nat) (o o' : Obj) (hl : w.heap.size ≤ l) (h : W.heap[l]? = some o) (h1 : o.isCells = false) (h2 : o.isWalk = false) : KpT n₀ Bs W (W.putObj l o') :=
  ⟨belowK_b hn W l o o' hl h h1 h2, World.putObj_heap_other (by omega)⟩

def encP (x : Int × Bool) : Array Value := #[.int .i64 x.1, .bool x.2]

set_option maxRecDepth 100000 in
set_option maxHeartbeats 4000000 in
theorem iter_in (n : Nat) (hn : 1 ≤ n) (l Bs n₀ : Nat) (s : ByteArray) (hs : s.size ≤ 1048576) (h2 : GsLt n₀) (B : Nat) (J Jx : List (Int × Bool) → World → Prop) (hJ : AbidesFrom B J)
    (hY : ∀ pre x W, J pre W → pre.length < (strm s.data.toList).length → YieldAt Fence.wide (n - 1) Tryz.prog l (encP x) W fun e W' =>
      (e = .returned (.bool true) ∧ J (pre ++ [x]) W' ∧ KpT n₀ Bs W W') ∨ (e = .returned (.bool false) ∧ Jx (pre ++ [x]) W'))
    (W : World) (hW : n₀ ≤ W.heap.size) (hBn : Bs < W.heap.size) (hBs : W.cell? ⟨Bs, 0, none⟩ = some (.string s)) (hT : Tabs W) (h0 : J [] W) :
    CallsIn Fence.wide n Tryz.prog 115 #[.func (.yield l) #[] #[], .pointer (some ⟨Bs, 0, none⟩)] W fun e W' => (∃ v, e = .returned v) ∧
      ((∃ ys, ys = strm s.data.toList ∧ J ys W') ∨ (∃ pre, pre <+: strm s.data.toList ∧ Jx pre W')) := by
  refine callsIn_of_wp Tryz.func115 rfl trivial ?_ rfl
  simp only [Tryz.ntmps115, List.size_toArray, List.length_cons, List.length_nil, Nat.reduceAdd, Nat.reduceSub, Array.replicate_succ, Array.replicate_zero, List.push_toArray, List.append_toArray, List.nil_append, List.cons_append]
  gi_wp2
  gi_loopw [3] (fun i wr => ∃ (pos : Nat) (pre : List (Int × Bool)), pos ≤ s.size ∧ i = .int .i64 pos ∧ strm s.data.toList = pre ++ strm (s.data.toList.drop pos) ∧ J pre wr ∧ KpT n₀ Bs W wr)
    (fun i _ => s.size - (intOf i).toNat)
  case atStart => exact ⟨0, [], Nat.zero_le _, rfl, rfl, h0, KpT.refl _ _ _⟩
  case round =>
    obtain ⟨pos, pre, hpos, rfl, hst, hJs, hnx⟩ := hrel
    have hBs' : wr.cell? ⟨Bs, 0, none⟩ = some (.string s) := (hnx.cell 0).trans hBs
    have HT := Lib.hid (tabs_below hT hnx.bel h2)
    have HW := Lib.hid (Nat.le_trans hW hnx.bel.size)
    have HST := Lib.hid hst
    have HNX := Lib.hid hnx
    have hBw : Bs < wr.heap.size := Nat.lt_of_lt_of_le hBn hnx.bel.size
    clear hst hnx
    by_cases hlt : pos < s.size
    · have hne : s.data.toList.drop pos ≠ [] := by
        intro h
        have := congrArg List.length h
        rw [List.length_drop, show s.data.toList.length = s.size by simp] at this
        simp at this
        omega
      have K := Lib.hid (fun WW (hTT : Tabs WW) => callsIn_wide (n := n - 1).2 (decode_at' s pos hlt WW hTT))
      have hwd := Lib.decodeL_width (s.data.toList.drop pos)
      have hle := Lib.decodeL_le (s.data.toList.drop pos) hne
      rw [List.length_drop, show s.data.toList.length = s.size by simp] at hle
      have hbo := decodeL_bound (s.data.toList.drop pos)
      have hpl : pre.length < (strm s.data.toList).length := by
        rw [HST.out, List.length_append]
        cases hb : badB (s.data.toList.drop pos)
        · rw [strm_step _ hne hb, List.length_cons]; omega
        · rw [strm_bad _ hne hb, List.length_cons]; omega
      have HPL := Lib.hid hpl
      clear hpl
      cases hbd : badB (s.data.toList.drop pos)
      · have HN := Lib.hid (strm_step _ hne hbd)
        rw [List.drop_drop] at HN
        have hnb : ¬ ((Lib.decodeL (s.data.toList.drop pos)).1 = 65533 ∧ (Lib.decodeL (s.data.toList.drop pos)).2 = 1) := by
          unfold badB at hbd
          exact of_decide_eq_false hbd
        clear hne hbd
        generalize (Lib.decodeL (s.data.toList.drop pos)).1 = r at K hbo HN hnb
        generalize (Lib.decodeL (s.data.toList.drop pos)).2 = k at K hwd hle HN hnb
        have hr2 : (r : Int) ≤ 1114111 := by omega
        have hk2 : (pos : Int) + (k : Int) ≤ (s.size : Int) := by omega
        have hs2 : (s.size : Int) ≤ 1048576 := by omega
        by_cases hr : r = 65533
        · have hk1 : ((k : Int) == 1) = false := by rw [beq_eq_false_iff_ne]; omega
          have hr1 : ((r : Int) == 65533) = true := by rw [beq_iff_eq]; omega
          clear hr hnb
          gi_wp2_with fail
          refine ⟨trivial, (K.out _ HT.out).mono ?_⟩
          rintro e w1 ⟨rfl, hb1⟩
          have hJ1 : J pre w1 := hJ pre wr w1 none hJs ⟨hb1.os, hb1.tape, hb1.output, hb1.size, fun i hi _ => hb1.block i hi⟩ (fun r e => by cases e)
          have HN1 := Lib.hid (HNX.out.trans (KpT.of_below hb1 HW.out hBw))
          have hBs1 : w1.cell? ⟨Bs, 0, none⟩ = some (.string s) := (hb1.cell (p := ⟨Bs, 0, none⟩) hBw).trans hBs'
          obtain ⟨fn, tmps, assign, body, hy, hR⟩ := hY pre ((r : Int), true) w1 hJ1 HPL.out
          dsimp only [encP] at hy
          clear hb1 hY
          gi_wp2
          refine hR.mono ?_
          rintro e W3 (⟨rfl, hJ3, hk3⟩ | ⟨rfl, hJx3⟩)
          · gi_wp2
            go_roundw
            case rel => exact ⟨pos + k, pre ++ [((r : Int), true)], by omega, by go_num, by rw [HST.out, HN.out]; simp, hJ3, HN1.out.trans hk3⟩
            case measure => simp [intOf]; omega
          · gi_wp2
            refine bodyPost_ret (results_none rfl _ _ _) rfl ?_
            exact ⟨⟨_, rfl⟩, .inr ⟨pre ++ [((r : Int), true)], ⟨strm (s.data.toList.drop (pos + k)), by rw [HST.out, HN.out]; simp⟩, hJx3⟩⟩
        · have hr1 : ((r : Int) == 65533) = false := by rw [beq_eq_false_iff_ne]; omega
          clear hr hnb
          gi_wp2_with fail
          refine ⟨trivial, (K.out _ HT.out).mono ?_⟩
          rintro e w1 ⟨rfl, hb1⟩
          have hJ1 : J pre w1 := hJ pre wr w1 none hJs ⟨hb1.os, hb1.tape, hb1.output, hb1.size, fun i hi _ => hb1.block i hi⟩ (fun r e => by cases e)
          have HN1 := Lib.hid (HNX.out.trans (KpT.of_below hb1 HW.out hBw))
          have hBs1 : w1.cell? ⟨Bs, 0, none⟩ = some (.string s) := (hb1.cell (p := ⟨Bs, 0, none⟩) hBw).trans hBs'
          obtain ⟨fn, tmps, assign, body, hy, hR⟩ := hY pre ((r : Int), true) w1 hJ1 HPL.out
          dsimp only [encP] at hy
          clear hb1 hY
          gi_wp2
          refine hR.mono ?_
          rintro e W3 (⟨rfl, hJ3, hk3⟩ | ⟨rfl, hJx3⟩)
          · gi_wp2
            go_roundw
            case rel => exact ⟨pos + k, pre ++ [((r : Int), true)], by omega, by go_num, by rw [HST.out, HN.out]; simp, hJ3, HN1.out.trans hk3⟩
            case measure => simp [intOf]; omega
          · gi_wp2
            refine bodyPost_ret (results_none rfl _ _ _) rfl ?_
            exact ⟨⟨_, rfl⟩, .inr ⟨pre ++ [((r : Int), true)], ⟨strm (s.data.toList.drop (pos + k)), by rw [HST.out, HN.out]; simp⟩, hJx3⟩⟩
      · have HN := Lib.hid (strm_bad _ hne hbd)
        have hd : (Lib.decodeL (s.data.toList.drop pos)).1 = 65533 ∧ (Lib.decodeL (s.data.toList.drop pos)).2 = 1 := by
          unfold badB at hbd
          exact of_decide_eq_true hbd
        rw [hd.1, hd.2] at K
        clear hne hbd hd hwd hle hbo
        gi_wp2_with fail
        refine ⟨trivial, (K.out _ HT.out).mono ?_⟩
        rintro e w1 ⟨rfl, hb1⟩
        have hJ1 : J pre w1 := hJ pre wr w1 none hJs ⟨hb1.os, hb1.tape, hb1.output, hb1.size, fun i hi _ => hb1.block i hi⟩ (fun r e => by cases e)
        have HN1 := Lib.hid (HNX.out.trans (KpT.of_below hb1 HW.out hBw))
        have hBs1 : w1.cell? ⟨Bs, 0, none⟩ = some (.string s) := (hb1.cell (p := ⟨Bs, 0, none⟩) hBw).trans hBs'
        obtain ⟨fn, tmps, assign, body, hy, hR⟩ := hY pre ((0 : Int), false) w1 hJ1 HPL.out
        dsimp only [encP] at hy
        clear hb1 hY
        gi_wp2
        refine hR.mono ?_
        rintro e W3 (⟨rfl, hJ3, hk3⟩ | ⟨rfl, hJx3⟩)
        · gi_wp2
          refine bodyPost_ret (results_none rfl _ _ _) rfl ?_
          exact ⟨⟨_, rfl⟩, .inl ⟨_, by rw [HST.out, HN.out], hJ3⟩⟩
        · gi_wp2
          refine bodyPost_ret (results_none rfl _ _ _) rfl ?_
          exact ⟨⟨_, rfl⟩, .inr ⟨_, ⟨[], by rw [HST.out, HN.out]; simp⟩, hJx3⟩⟩
    · obtain rfl : pos = s.size := by omega
      gi_wp2
      go_end0
      refine ⟨⟨_, rfl⟩, .inl ⟨pre, ?_, hJs⟩⟩
      have h := HST.out
      rw [List.drop_eq_nil_of_le (by rw [show s.data.toList.length = s.size by simp]; exact Nat.le_refl _), strm_nil, List.append_nil] at h
      exact h.symm

/-- the iterator's value: the text in a box -/
theorem pointsIn_in (n : Nat) (s : ByteArray) (w : World) :
    CallsIn Fence.wide n Tryz.prog 112 #[.string s] w fun e w' => e = .returned (.func (.func 115) #[] #[.pointer (some ⟨w.heap.size, 0, none⟩)]) ∧ w' = w.alloc (.cells #[.string s] 9) := by
  refine callsIn_of_wp Tryz.func112 rfl trivial ?_ rfl
  simp only [Tryz.ntmps112, List.size_toArray, List.length_cons, List.length_nil, Nat.reduceAdd, Nat.reduceSub, Array.replicate_succ, Array.replicate_zero, List.push_toArray, List.append_toArray, List.nil_append, List.cons_append]
  gi_wp2
  go_ret
  exact ⟨rfl, rfl⟩

theorem iter_stops (n : Nat) (hn : 1 ≤ n) (Bs n₀ : Nat) (s : ByteArray) (hs : s.size ≤ 1048576) (h2 : GsLt n₀) (w : World) (hB : Bs < w.heap.size) (hn₀ : n₀ ≤ w.heap.size) (hc : w.cell? ⟨Bs, 0, none⟩ = some (.string s))
    (hT : Tabs w) :
    SeqStopsK Fence.wide n Tryz.prog 115 #[.pointer (some ⟨Bs, 0, none⟩)] encP (KpT n₀ Bs) (fun ys => ys = strm s.data.toList) (fun pre => pre <+: strm s.data.toList) (strm s.data.toList).length w :=
  fun l J Jx W hW hJ hJx hY h0 =>
    iter_in n hn l Bs n₀ s hs h2 W.heap.size J Jx hJ hY W (Nat.le_trans hn₀ hW.size) (Nat.lt_of_lt_of_le hB hW.size) ((hW.cell (p := ⟨Bs, 0, none⟩) hB).trans hc) (tabs_kept hT hW) h0

/-- a call that only made memory turns nothing else -/
theorem keeps_below {W W' : World} (h : Below W.heap.size W W') : KeepsOthers W W' :=
  ⟨h.size, fun k o hk _ => (h.block k (Array.getElem?_eq_some_iff.1 hk).1).trans hk⟩
end Go.Proofs.YtbfjhjkllaceaaaGreatDoor

/- Contract of the program's TextFault. -/
namespace Go.Proofs.YtbfjhjkllaceaaaGreatDoor
open Go.RowKit Go.Shelf
set_option linter.unusedVariables false

attribute [local go_sem] Oper.semAt_some

theorem bool_int {a b : Int} (h : a = b) : Ending.returned (.int .i64 a) = .returned (.int .i64 b) := by rw [h]
def cfault (b : Bool) : Int := if b then 0 else 5
theorem prefix_bad {l : List UInt8} {pre : List (Int × Bool)} (hp : pre <+: strm l) (hb : pre.all goodB = false) : charsB l = false := by
  unfold charsB
  rw [Bool.eq_false_iff] at hb ⊢
  intro h
  apply hb
  rw [List.all_eq_true] at h ⊢
  exact fun x hx => h x (hp.subset hx)

set_option maxRecDepth 100000 in
set_option maxHeartbeats 4000000 in
theorem implTextFault_in (s : ByteArray) (hs : s.size ≤ 60) (w : World) (hT : Tabs w) :
    CallsIn Fence.wide 6 Tryz.prog 108 #[.string s] w fun e W' => e = .returned (.int .i64 (cfault (charsB s.data.toList))) ∧ Below w.heap.size w W' := by
  refine callsIn_of_wp_marks Tryz.func108 rfl trivial ?_ rfl
  simp only [Tryz.ntmps108, List.size_toArray, List.length_cons, List.length_nil, Nat.reduceAdd, Nat.reduceSub, Array.replicate_succ, Array.replicate_zero, List.push_toArray, List.append_toArray, List.nil_append, List.cons_append]
  gi_wp2_with (refine ⟨trivial, ?_⟩; gi_at_call 112; refine (pointsIn_in _ _ _).mono ?_; rintro e w' ⟨rfl, rfl⟩)
  have bR := Boxed.new w 2 (.int .i64 0)
  have bT := Boxed.new (w.alloc (.cells #[.int .i64 0] 2)) 9 (.string s)
  rw [World.size_alloc] at bT
  have hB0 : Below w.heap.size w ((w.alloc (.cells #[.int .i64 0] 2)).alloc (.cells #[.string s] 9)) := below2 w _ _
  refine wpIn_rangeFunc_ownF rfl (by omega) (gf := 115) (lb := #[.pointer (some ⟨w.heap.size + 1, 0, none⟩)]) rfl trivial (enters_of Tryz.func115 (by kernel_rfl) rfl)
    (iter_stops _ (by omega) (w.heap.size + 1) w.heap.size s (by omega) (gs_of_tabs hT) _ (by simp) (by simp; omega) bT.cell (tabs_kept hT hB0)) (fun h k => KpT.trans h k) (kpT_b (by simp; omega) (by simp)) (Below.refl _ _) (fun _ => rfl)
    (fun pre W => (pre.all goodB = true ∧ Boxed W w.heap.size 2 (.int .i64 0) ∧ Boxed W (w.heap.size + 1) 9 (.string s)) ∧ Below w.heap.size w W)
    (fun c pre W => (c = .ret ∧ pre.all goodB = false ∧ Boxed W w.heap.size 2 (.int .i64 5)) ∧ Below w.heap.size w W)
    (OwnFrom.and (Own.from (fun s A B row hs hg hr => ⟨hs.1, hs.2.1.kept hg (fun e => by obtain ⟨o, ho, hc⟩ := hr _ e.symm; rw [show A.heap[_]? = _ from hs.2.1] at ho; cases ho; cases hc), hs.2.2.kept hg (fun e => by obtain ⟨o, ho, hc⟩ := hr _ e.symm; rw [show A.heap[_]? = _ from hs.2.2] at ho; cases ho; cases hc)⟩) _) (ownFrom_below (Nat.le_refl _) (by simp; omega)))
    (fun c => OwnFrom.and (Own.from (fun s A B row hs hg hr => ⟨hs.1, hs.2.1, hs.2.2.kept hg (fun e => by obtain ⟨o, ho, hc⟩ := hr _ e.symm; rw [show A.heap[_]? = _ from hs.2.2] at ho; cases ho; cases hc)⟩) _) (ownFrom_below (Nat.le_refl _) (by simp; omega)))
    ⟨⟨rfl, bR.alloc _, bT⟩, hB0⟩
    (fun x => { tmps := #[.string s, undef, .pointer (some ⟨w.heap.size, 0, none⟩), .int .i64 x.1, .bool x.2, .string s, .int .i64 s.size, .bool (decide ((60 : Int) < (s.size : Int))), .string s, .func (.func 115) #[] #[.pointer (some ⟨w.heap.size + 1, 0, none⟩)], .int .i64 x.1, .bool x.2, undef, undef, undef, undef, undef, undef, undef], defers := [] }) ?assign ?body ?done ?stop
  case assign =>
    intro l x W K hK
    unfold encP
    gi_wp2
    exact hK
  case body =>
    rintro l pre ⟨p, ok⟩ W ⟨⟨hall, hR, hTx⟩, hB⟩ _
    have hc := hR.cell
    have hf := hR.frozen
    have HA := Lib.hid hall
    clear hall
    cases ok
    · gi_wp2
      refine ⟨trivial, ?_⟩
      gi_wp2
      exact ⟨KeepsOthers.setCell _ _ _, ⟨rfl, by rw [List.all_append, HA.out]; rfl, hR.set _⟩, hB.setCell (p := ⟨w.heap.size, 0, none⟩) (Nat.le_refl _) _⟩
    · cases hcb : charB p
      · have HC := Lib.hid hcb
        gi_wp2_with (refine ⟨trivial, ?_⟩; gi_at_call 113; refine (CallsIn.inRound l (callsIn_wide.2 (implIsChar_any p _))).mono ?_; rintro e w1 ⟨rfl, hb1⟩; have hR1 : Boxed w1 w.heap.size 2 (.int .i64 0) := (hb1.block _ hR.lt).trans hR; have hc1 := hR1.cell; have hf1 := hR1.frozen)
        exact ⟨(keeps_below hb1).trans (KeepsOthers.setCell _ _ _), ⟨rfl, by rw [List.all_append, HA.out]; simp [goodB, HC.out], hR1.set _⟩, (hB.trans (hb1.mono hB.size)).setCell (p := ⟨w.heap.size, 0, none⟩) (Nat.le_refl _) _⟩
      · have HC := Lib.hid hcb
        gi_wp2_with (refine ⟨trivial, ?_⟩; gi_at_call 113; refine (CallsIn.inRound l (callsIn_wide.2 (implIsChar_any p _))).mono ?_; rintro e w1 ⟨rfl, hb1⟩)
        exact ⟨keeps_below hb1, KpT.of_below hb1 hB.size hTx.lt, ⟨by rw [List.all_append, HA.out]; simp [goodB, HC.out], (hb1.block _ hR.lt).trans hR, (hb1.block _ hTx.lt).trans hTx⟩, hB.trans (hb1.mono hB.size)⟩
  case done =>
    rintro D ys W hD rfl ⟨⟨hall, hR, hTx⟩, hB⟩ hK
    have hc := hR.cell
    have hf := hR.frozen
    gi_wp2
    have hK' := (KeepsOthers.setCell W ⟨w.heap.size, 0, none⟩ (.int .i64 0)).same D _ hK rfl
    refine ⟨by simp, .inl ⟨_, _, rfl, run_takeDeferred hK', ?_⟩⟩
    have hc5 := cell_kept (hR.set (.int .i64 0)).cell (grownBy_putObj' _ D (.deferred none)) (fun r e => by cases e; exact ⟨_, hK', rfl⟩)
    refine ⟨.int .i64 0, ?_, bool_int (by unfold charsB; rw [hall]; rfl), (hB.setCell (p := ⟨w.heap.size, 0, none⟩) (Nat.le_refl _) _).trans (belowK_b (w := w) (Nat.le_refl _) _ D _ _ (by simp at hD; omega) hK' rfl rfl)⟩
    simp [results, Tryz.f108, go_sem, hc5]
  case stop =>
    rintro D c pre W hD hpre ⟨⟨rfl, hbad, hR⟩, hB⟩ hK
    gi_wp2
    refine ⟨by simp, .inl ⟨_, _, rfl, run_takeDeferred hK, ?_⟩⟩
    have hc5 := cell_kept hR.cell (grownBy_putObj' _ D (.deferred none)) (fun r e => by cases e; exact ⟨_, hK, rfl⟩)
    refine ⟨.int .i64 5, ?_, bool_int (by rw [prefix_bad hpre hbad]; rfl), hB.trans (belowK_b (w := w) (Nat.le_refl _) W D _ _ (by simp at hD; omega) hK rfl rfl)⟩
    simp [results, Tryz.f108, go_sem, hc5]

/-- the program's TextFault -/
theorem implTextFault_any (s : ByteArray) (hs : s.size ≤ maxLen) (w : World) (hT : Tabs w) :
    Calls Tryz.prog 108 #[.string s] w fun e w' => e = .returned (.int .i64 (textFault s.data.toList)) ∧ Below w.heap.size w w' := by
  have hl : s.data.toList.length = s.size := by simp
  unfold textFault
  rw [hl]
  by_cases h : 60 < s.size
  · rw [if_pos h]
    clear hl
    unfold maxLen at hs
    go_enter Tryz.func108, Tryz.ntmps108
    go_wp2
    exact bodyPost_ret (v := .int .i64 2) (by simp [results, Tryz.results108, go_sem]) rfl ⟨rfl, below1 w _⟩
  · rw [if_neg h]
    exact callsIn_wide.1 (implTextFault_in s (by omega) w hT)
end Go.Proofs.YtbfjhjkllaceaaaGreatDoor
