/- Texts laid together, part 8. -/
import Derived.Test.YtbfjhjkllaceaaaGreatDoorGA7
import Derived.Maps.OwnSet
import Derived.Maps.AppendAt
import Derived.Deep.AppendLies
import Derived.StringKeys
import Derived.LaidEql
import Derived.Stop.Asserts
import Derived.RowKitTokens
import Derived.IntWalk
import Derived.RangeFuncNested
import Derived.RangeFuncBound
import Derived.RangeFuncCalls
import Derived.RangeFuncLeaves
import Derived.RangeFuncBox
import Derived.Shelf.Abstract
import Derived.Shelf.RegionOpen
import Derived.WalkKit
import Derived.OwnWalkIn
import Derived.TacticsInMore
import Derived.LoopNIn
import Derived.LoopIn

/- A book of texts: a list, and a map of its texts to their places: plain facts, and how it lies in memory. -/
namespace Go.Proofs.YtbfjhjkllaceaaaGreatDoor
open Go.ChangeShapes Go.WideShapes Go.ChangeAt Go.RowKit
set_option linter.unusedVariables false

def tkey (t : ByteArray) : Lit := .string t.data.toList
theorem tkey_is (t : ByteArray) : WideAt.IsKeyLit (tkey t) := by simp [tkey, WideAt.IsKeyLit]
theorem tkey_ne {s t : ByteArray} (h : s ≠ t) : tkey s ≠ tkey t := by
  intro e
  apply h
  unfold tkey at e
  simp only [Lit.string.injEq] at e
  cases s
  cases t
  simp only [ByteArray.mk.injEq]
  exact Array.toList_inj.1 e
theorem strLaw : Maps.Keyed Tryz.prog 9 := Maps.string_keyed Tryz.underlying9
theorem zeroI (w : World) : (zeroValue 2).run Tryz.prog w = .ok (.int .i64 0) w := by kernel_rfl
theorem tkeyOf (t : ByteArray) (h : t.size ≤ maxLen) : keyOf Tryz.prog 9 (.string t) = some (tkey t) := WideMaps.keyOf_string_mk Tryz.underlying9 h

theorem hasIx_old {ts : List ByteArray} {s : ByteArray} (r : List ByteArray) (h : 0 ≤ hasIx ts s) : hasIx (ts ++ r) s = hasIx ts s := by
  unfold hasIx at h ⊢
  by_cases hlt : ts.findIdx (fun x => x.toList == s.toList) < ts.length
  · rw [List.findIdx_append, if_pos hlt, if_pos (by rw [List.length_append]; omega), if_pos hlt]
  · rw [if_neg hlt] at h
    omega
theorem hasIx_new {ts : List ByteArray} {t : ByteArray} (h : ¬ 0 ≤ hasIx ts t) : hasIx (ts ++ [t]) t = ts.length := by
  unfold hasIx at h ⊢
  by_cases hlt : ts.findIdx (fun x => x.toList == t.toList) < ts.length
  · rw [if_pos hlt] at h
    omega
  · rw [List.findIdx_append, if_neg hlt]
    have e : [t].findIdx (fun x => x.toList == t.toList) = 0 := by simp [List.findIdx_cons]
    rw [e]
    simp
theorem hasIx_other {ts : List ByteArray} {s t : ByteArray} (h : ¬ 0 ≤ hasIx ts s) (hne : s ≠ t) : ¬ 0 ≤ hasIx (ts ++ [t]) s := by
  rw [has_iff] at h ⊢
  simp only [List.mem_append, List.mem_cons, List.not_mem_nil, or_false]
  rintro (h1 | h1)
  · exact h h1
  · exact hne h1

/-- the map tells the place of each text -/
structure Places (D : DataW Unit) (ts : List ByteArray) : Prop where
  isMap : Maps.IsMap D
  has : ∀ t, Maps.has D (tkey t) = decide (0 ≤ hasIx ts t)
  at_ : ∀ t, 0 ≤ hasIx ts t → D.atKey (tkey t) (.lit (.int .i64 0)) = .lit (.int .i64 (hasIx ts t))
theorem Places.empty : Places (.map []) [] := by
  refine ⟨Maps.isMap_empty, fun t => ?_, fun t h => ?_⟩
  · have : ¬ 0 ≤ hasIx [] t := by rw [has_iff]; simp
    rw [decide_eq_false this]
    rfl
  · rw [has_iff] at h
    simp at h
theorem Places.add {D : DataW Unit} {ts : List ByteArray} {t : ByteArray} (h : Places D ts) (hn : ¬ 0 ≤ hasIx ts t) : Places (D.put (tkey t) (.lit (.int .i64 (ts.length : Int)))) (ts ++ [t]) := by
  refine ⟨h.isMap.put _ _, fun s => ?_, fun s hs => ?_⟩
  · by_cases e : s = t
    · subst e
      rw [Maps.has_put_same h.isMap (tkey_is s), hasIx_new hn, decide_eq_true (by omega)]
    · rw [Maps.has_put_other (tkey_ne e), h.has s]
      by_cases h0 : 0 ≤ hasIx ts s
      · rw [decide_eq_true h0, hasIx_old _ h0, decide_eq_true h0]
      · rw [decide_eq_false h0, decide_eq_false (hasIx_other h0 e)]
  · by_cases e : s = t
    · subst e
      rw [Maps.atKey_put_same h.isMap (tkey_is s), hasIx_new hn]
    · rw [Maps.atKey_put_other (tkey_ne e)]
      by_cases h0 : 0 ≤ hasIx ts s
      · rw [hasIx_old _ h0]
        exact h.at_ s h0
      · exact absurd hs (hasIx_other h0 e)

/-- a map that is cleared holds nothing -/
theorem ownsMap_cleared {P : Program} {k : TypeId} {R : Value → Option (DataW Unit × List MemPlace)} {w : World} {b n : Nat} {D : DataW Unit} {t e : TypeId} (h : w.ownsMap P k R b n D) (ht : P.underlying t = some (.map k e)) (ty : TypeId) :
    ∃ w', (Builtin.clear_ #[t] ty #[.map (some b)]).run P w = .ok (.tuple #[]) w' ∧ w'.ownsMap P k R b 0 (.map []) ∧ w.mapTurned w' b := by
  obtain ⟨es, clock, hb, F, hs, rfl⟩ := h
  refine ⟨ChangeMaps.setBlock w b (.map #[] clock), ?_, ⟨#[], clock, ChangeMaps.heap_setBlock_same hb _, ⟨by simp, MapKept.stamped_empty clock, by simp⟩, Nat.le_refl _, rfl⟩, ⟨es, clock, #[], clock, hb, rfl⟩⟩
  simp [Builtin.clear_, run_underlying ht, MapKept.run_getObj_map hb, MapKept.run_setObj_map _ hb, ChangeMaps.setBlock, Result.andThen]
theorem wpList_clear_own {P : Program} (w : World) {ops : Array Oper} {rest : List Oper} {o : Oper} {a : Act} {Q : Exit → Act → World → Prop} (hg : o.guard = none) (m : Operand) (t : TypeId)
    (hop : o.op = Op.call { callee := Callee.builtin Builtin.clear, args := #[m], argTypes := #[t] }) (k e : TypeId) (ht : P.underlying t = some (.map k e)) (R : Value → Option (DataW Unit × List MemPlace)) (b n : Nat) (D : DataW Unit)
    (hm : a.eval m = .map (some b)) (hown : w.ownsMap P k R b n D)
    (hK : ∀ w', w'.ownsMap P k R b 0 (.map []) → w.mapTurned w' b → wpList P ops Q rest (a.put o.dst (.tuple #[])) w') :
    wpList P ops Q (o :: rest) a w := by
  refine wpList_plain hg fun K' hK' => ?_
  obtain ⟨w', hrun, r1, r2⟩ := ownsMap_cleared hown ht o.type
  unfold Oper.wp
  simp [execOp, hop, resolve, invoke, builtin, hm, hrun, Result.andThen]
  exact hK' _ _ (hK w' r1 r2)

theorem rowOnly {P : Nat → Prop} {w w' : World} {base : Nat} {e : TypeId} {size : Nat} {v : Value} {n : Nat} {xs : List Value} (h : w.ownsRow base e size v n xs) (ho : Only P w w') (hn : ∀ k, v.ownBlock = some k → ¬ P k) : w'.ownsRow base e size v n xs := by
  refine ⟨h.1, ?_⟩
  rcases h.2 with h2 | ⟨g, cap, cur, hv, hg, hh, hnc, hm, hs, ht⟩
  · exact .inl h2
  · have hk : v.ownBlock = some g := by rw [hv]; rfl
    exact .inr ⟨g, cap, cur, hv, hg, (ho.block g (h.lt g hk).2 (hn g hk)).trans hh, hnc, hm, hs, ht⟩
theorem mapOnly {Q : Nat → Prop} {P : Program} {k : TypeId} {R : Value → Option (DataW Unit × List MemPlace)} {w w' : World} {b n : Nat} {D : DataW Unit} (h : w.ownsMap P k R b n D) (ho : Only Q w w') (hn : ¬ Q b) : w'.ownsMap P k R b n D := by
  have hlt := h.lt
  obtain ⟨es, clock, hb, r⟩ := h
  exact ⟨es, clock, (ho.block b hlt hn).trans hb, r⟩

/-- a book in block b, its map in block m, its list in block g; what lies in no block of K is as it was in w0 -/
structure BookAt (K : Nat → Prop) (w0 w : World) (b m : Nat) (g : Option Nat) (ts : List ByteArray) : Prop where
  lt : b < w.heap.size
  ge : K b
  mge : K m
  on : Only K w0 w
  c0 : ∃ a n c, w.cell? ⟨b, 0, none⟩ = some (.slice a n c) ∧ w.ownsRow w0.heap.size 9 1 (.slice a n c) n (ts.map Value.string) ∧ (Value.slice a n c).ownBlock = g
  c1 : w.cell? ⟨b, 1, none⟩ = some (.map (some m))
  map : ∃ D, w.ownsMap Tryz.prog 9 (plainElem (H := Unit) Tryz.prog 2) m ts.length D ∧ Places D ts
  apart : g ≠ some b ∧ g ≠ some m ∧ m ≠ b
  f0 : w.frozen? ⟨b, 0, none⟩ = false
  f1 : w.frozen? ⟨b, 1, none⟩ = false
/-- the blocks of a book -/
def BookP (b m : Nat) (g : Option Nat) (i : Nat) : Prop := i = b ∨ i = m ∨ some i = g
theorem Only.under2 {K P : Nat → Prop} {w0 w w' : World} (h : Only K w0 w) (ho : Only P w w') (hP : ∀ i, P i → K i ∨ w0.heap.size ≤ i) : Only K w0 w' :=
  ⟨ho.os.trans h.os, ho.tape.trans h.tape, ho.output.trans h.output, Nat.le_trans h.size ho.size, fun i hi hk => (ho.block i (Nat.lt_of_lt_of_le hi h.size) (fun hp => by rcases hP i hp with h1 | h1; exact hk h1; omega)).trans (h.block i hi hk)⟩
theorem Only.grownK {K : Nat → Prop} {w0 w w' : World} {r : Option Nat} (h : Only K w0 w) (hg : w.grownBy w' r) (hr : ∀ k, r = some k → K k ∨ w0.heap.size ≤ k) : Only K w0 w' :=
  ⟨hg.os.trans h.os, hg.tape.trans h.tape, hg.output.trans h.output, Nat.le_trans h.size hg.size, fun i hi hk => (hg.block i (Nat.lt_of_lt_of_le hi h.size) (fun e => by rcases hr i e.symm with h1 | h1; exact hk h1; omega)).trans (h.block i hi hk)⟩
theorem BookAt.only {K P : Nat → Prop} {w0 w w' : World} {b m : Nat} {g : Option Nat} {ts : List ByteArray} (h : BookAt K w0 w b m g ts) (ho : Only P w w') (hn : ∀ i, BookP b m g i → ¬ P i) (hP : ∀ i, P i → K i ∨ w0.heap.size ≤ i) : BookAt K w0 w' b m g ts := by
  obtain ⟨a, n, c, h1, h2, h3⟩ := h.c0
  obtain ⟨D, h4, h5⟩ := h.map
  have hb := hn b (.inl rfl)
  exact ⟨Nat.lt_of_lt_of_le h.lt ho.size, h.ge, h.mge, h.on.under2 ho hP, ⟨a, n, c, (ho.cell (p := ⟨b, 0, none⟩) h.lt hb).trans h1, rowOnly h2 ho (fun k hk => hn k (.inr (.inr (by rw [← h3, hk])))), h3⟩,
    (ho.cell (p := ⟨b, 1, none⟩) h.lt hb).trans h.c1, ⟨D, mapOnly h4 ho (hn m (.inr (.inl rfl))), h5⟩, h.apart, (ho.frozen (p := ⟨b, 0, none⟩) h.lt hb).trans h.f0, (ho.frozen (p := ⟨b, 1, none⟩) h.lt hb).trans h.f1⟩
theorem BookAt.keep {K : Nat → Prop} {w0 w w' : World} {b m : Nat} {g : Option Nat} {ts : List ByteArray} (h : BookAt K w0 w b m g ts) (hb : Below w.heap.size w w') : BookAt K w0 w' b m g ts :=
  h.only (Only.below (P := fun _ => False) hb) (fun _ _ h => h) (fun _ h => h.elim)
/-- the list lies where it lay, or in a new block -/
def NewG (w : World) (g g' : Option Nat) : Prop := g' = g ∨ ∃ k, g' = some k ∧ w.heap.size ≤ k
theorem NewG.same (w : World) (g : Option Nat) : NewG w g g := .inl rfl
theorem NewG.trans {w w' : World} {g g' g'' : Option Nat} (h : NewG w g g') (hs : w.heap.size ≤ w'.heap.size) (k : NewG w' g' g'') : NewG w g g'' := by
  rcases k with rfl | ⟨k, rfl, hk⟩
  · exact h
  · exact .inr ⟨k, rfl, by omega⟩
theorem Only.then {w w' w'' : World} {b m : Nat} {g g' : Option Nat} (h : Only (BookP b m g) w w') (hg : NewG w g g') (k : Only (BookP b m g') w' w'') : Only (BookP b m g) w w'' := by
  refine ⟨k.os.trans h.os, k.tape.trans h.tape, k.output.trans h.output, Nat.le_trans h.size k.size, fun i hi hp => (k.block i (Nat.lt_of_lt_of_le hi h.size) ?_).trans (h.block i hi hp)⟩
  rintro (rfl | rfl | e)
  · exact hp (.inl rfl)
  · exact hp (.inr (.inl rfl))
  · rcases hg with rfl | ⟨k, rfl, hk⟩
    · exact hp (.inr (.inr e))
    · simp only [Option.some.injEq] at e
      omega
theorem Only.grownP {P : Nat → Prop} {w w' : World} {r : Option Nat} (h : w.grownBy w' r) (hp : ∀ k, r = some k → P k) : Only P w w' :=
  ⟨h.os, h.tape, h.output, h.size, fun i hi hn => h.block i hi (fun e => hn (hp i e.symm))⟩

theorem Only.far {P : Nat → Prop} {w w' w'' : World} {r : Option Nat} (h : Only P w w') (k : w'.grownBy w'' r) (hr : ∀ g, r = some g → w.heap.size ≤ g) : Only P w w'' :=
  ⟨k.os.trans h.os, k.tape.trans h.tape, k.output.trans h.output, Nat.le_trans h.size k.size, fun i hi hp => (k.block i (Nat.lt_of_lt_of_le hi h.size) (fun e => by have := hr i e.symm; omega)).trans (h.block i hi hp)⟩

def EmptyRes (w : World) (e : Ending) (w' : World) : Prop :=
  ∃ m, e = .returned (.agg #[.slice none 0 0, .map (some m)]) ∧ w.heap.size ≤ m ∧ m < w'.heap.size ∧ w'.ownsMap Tryz.prog 9 (plainElem (H := Unit) Tryz.prog 2) m 0 (.map []) ∧ Below w.heap.size w w'

set_option maxHeartbeats 800000 in
theorem emptyBook_any (w : World) : Calls Tryz.prog 27 #[] w (EmptyRes w) := by
  have hmm := @run_makeMap Tryz.prog
  go_enter Tryz.func27, Tryz.ntmps27
  go_wp2
  exact bodyPost_ret (v := .agg #[.slice none 0 0, .map (some (w.heap.size + 1))]) (by simp [results, Tryz.results27, go_sem]) rfl
    ⟨_, rfl, by omega, by simp, by
      have h := World.ownsMap_made (w.alloc (.cells #[.slice none 0 0, .map (some (w.heap.size + 1))] 48)) Tryz.prog 9 (plainElem (H := Unit) Tryz.prog 2)
      simpa using h, below2 w _ _⟩

/-- the place of a text is told, and the book has it -/
def PlaceRes (K : Nat → Prop) (w0 w : World) (b m : Nat) (g : Option Nat) (ts : List ByteArray) (t : ByteArray) (e : Ending) (w' : World) : Prop :=
  e = .returned (.int .i64 (hasIx (addT ts t) t)) ∧ ∃ g', BookAt K w0 w' b m g' (addT ts t) ∧ NewG w g g' ∧ Only (BookP b m g) w w'

/-- .. and what lies behind the book in its block is as it was -/
def PlaceAll (K : Nat → Prop) (w0 w : World) (b m : Nat) (g : Option Nat) (ts : List ByteArray) (t : ByteArray) (e : Ending) (w' : World) : Prop :=
  PlaceRes K w0 w b m g ts t e w' ∧ w'.cell? ⟨b, 2, none⟩ = w.cell? ⟨b, 2, none⟩ ∧ w'.frozen? ⟨b, 2, none⟩ = w.frozen? ⟨b, 2, none⟩
theorem same_grown {w w' : World} {r : Option Nat} {b : Nat} (hg : w.grownBy w' r) (hlt : b < w.heap.size) (hne : some b ≠ r) (o : Nat) : w'.cell? ⟨b, o, none⟩ = w.cell? ⟨b, o, none⟩ ∧ w'.frozen? ⟨b, o, none⟩ = w.frozen? ⟨b, o, none⟩ := by
  have := hg.block b hlt hne
  unfold World.cell? World.frozen?
  rw [this]
  exact ⟨rfl, rfl⟩

set_option maxRecDepth 100000 in
set_option maxHeartbeats 1600000 in
theorem placeOf_all (K : Nat → Prop) (w0 : World) (b m : Nat) (g : Option Nat) (ts : List ByteArray) (t : ByteArray) (W : World) (h : BookAt K w0 W b m g ts) (hl : ts.length ≤ 100000) (ht : t.size ≤ 9223372036854775807) :
    Calls Tryz.prog 61 #[.pointer (some ⟨b, 0, none⟩), .string t] W (PlaceAll K w0 W b m g ts t) := by
  obtain ⟨i0, hi, hz0, hz1, hz2⟩ := info_parts strInfo
  have hkey := tkeyOf t (by unfold maxLen; omega)
  obtain ⟨a, n, c, q0, hown, hgb⟩ := h.c0
  have q1 := h.c1
  have hlt := h.lt
  obtain ⟨D, hmap, hp⟩ := h.map
  have f0 := h.f0
  have HB := Lib.hid h
  have HOWN := Lib.hid hown
  have HN := Lib.hid (ownsS_length hown)
  have HMAP := Lib.hid hmap
  have HP := Lib.hid hp
  have HG := Lib.hid hgb
  have HKEY := Lib.hid hkey
  have hn1 : n ≤ 100000 := by have := HN.out; omega
  unfold PlaceAll PlaceRes
  by_cases hx : 0 ≤ hasIx ts t
  · rw [hasIx_pos hx]
    have hhas : Maps.has D (tkey t) = true := by rw [hp.has, decide_eq_true hx]
    have HAT := Lib.hid (hp.at_ t hx)
    have HH := Lib.hid hhas
    clear h hown hmap hp hgb hkey hhas
    go_enter Tryz.func61, Tryz.ntmps61
    go_wp2_with (at_lookup; refine wpList_lookup_own_ok_int _ rfl _ _ 46 rfl 9 2 .i64 strLaw Tryz.underlying46 Tryz.underlying2 (zeroI _) m _ D rfl HMAP.out _ _ rfl HKEY.out ?_; intro v hat hwc; rw [HH.out]; have hv := hat.symm.trans HAT.out; have HV : Hid (v = hasIx ts t) := Lib.hid (by simpa using hv); clear hat hwc hv)
    have hv := HV.out
    subst hv
    go_ret
    exact ⟨⟨rfl, g, HB.out, NewG.same _ _, Only.refl _⟩, rfl, rfl⟩
  · rw [hasIx_neg hx]
    have hhas : Maps.has D (tkey t) = false := by rw [hp.has, decide_eq_false hx]
    have HH := Lib.hid hhas
    have HX := Lib.hid (hasIx_new hx)
    have HA := Lib.hid (hp.add hx)
    clear h hown hmap hp hgb hkey hhas
    go_enter Tryz.func61, Tryz.ntmps61
    go_wp2_with (first
      | (at_lookup; refine wpList_lookup_own_ok_int _ rfl _ _ 46 rfl 9 2 .i64 strLaw Tryz.underlying46 Tryz.underlying2 (zeroI _) m _ D rfl HMAP.out _ _ rfl HKEY.out ?_; intro v hat hwc; rw [HH.out]; clear hat hwc)
      | (at_mapUpdate; refine wpList_mapUpdate_own _ rfl _ _ _ 46 rfl 9 2 strLaw Tryz.underlying46 _ m ts.length D rfl HMAP.out (by unfold maxLen; omega) _ _ _ rfl rfl HKEY.out _ [] (plainElem_int Tryz.underlying2 (WalkArith.wf_i64 (by omega))) ?_))
    intro w1 hown1 hgrow1
    have hap := HB.out.apart
    have hbm : some b ≠ some m := fun e => hap.2.2 (Option.some.inj e).symm
    have hgm : (Value.slice a n c).ownBlock ≠ some m := by rw [HG.out]; exact hap.2.1
    have hgb : (Value.slice a n c).ownBlock ≠ some b := by rw [HG.out]; exact hap.1
    have HO1 := Lib.hid (row_kept HOWN.out hgrow1 hgm)
    have p0 := hgrow1.cell (a := ⟨b, 0, none⟩) q0 hbm
    have p1 := hgrow1.cell (a := ⟨b, 1, none⟩) q1 hbm
    have pf0 := (hgrow1.frozen_far ⟨b, 0, none⟩ hlt hbm).trans f0
    have pf1 := (hgrow1.frozen_far ⟨b, 1, none⟩ hlt hbm).trans HB.out.f1
    have hlt1 : b < w1.heap.size := Nat.lt_of_lt_of_le hlt hgrow1.size
    have HM1 := Lib.hid hown1
    have HG1 := Lib.hid hgrow1
    have HB1 := Lib.hid (HB.out.on.grownK hgrow1 (fun k hk => by cases hk; exact .inl HB.out.mge))
    have HPF1 := Lib.hid pf1
    clear hown1 hgrow1 q0 q1 f0 pf1
    go_wp2_with (at_builtin; refine wpList_append_own_at _ rfl _ _ 33 rfl w0.heap.size 9 i0 (.string ByteArray.empty) 1 16 Tryz.underlying33 hi hz0 hz1 hz2 rfl (by decide) _ n _ rfl (HO1.out.alloc _) ⟨w1.heap.size, 0, none⟩ 1 1 [.string t] rfl rfl ?c1 ?c2 ?c3 ?c4 ?c5 ?_)
    case c1 => exact strCells1 w1 t
    case c2 => intro v hv; simp at hv; subst hv; rfl
    case c3 => unfold maxLen; omega
    case c4 => omega
    case c5 => have := HB1.out.size; simp; omega
    intro v' w3 hown' hgrow _ hat
    obtain ⟨a4, c4, rfl⟩ := owns_slice hown'
    have hown' : w3.ownsRow w0.heap.size 9 1 (.slice a4 (n + 1) c4) (n + 1) ((ts ++ [t]).map Value.string) := by rw [List.map_append]; exact hown'
    have hne4 : (Value.slice a4 (n + 1) c4).ownBlock ≠ some b ∧ (Value.slice a4 (n + 1) c4).ownBlock ≠ some m := by
      have hm1 := HM1.out.lt
      rcases hat with e | e
      · rw [e]; exact ⟨hgb, hgm⟩
      · rw [e]
        constructor
        · intro e2
          simp at e2
          omega
        · intro e2
          simp at e2
          omega
    have hbg : some b ≠ (Value.slice a n c).ownBlock := Ne.symm hgb
    have hmg : some m ≠ (Value.slice a n c).ownBlock := Ne.symm hgm
    have hla : b < (w1.alloc (Obj.cells #[Value.string t] 9)).heap.size := by simp; omega
    have z0 := hgrow.cell (a := ⟨b, 0, none⟩) (((below1 w1 _).cell (by exact hlt1)).trans p0) hbg
    have z1 := hgrow.cell (a := ⟨b, 1, none⟩) (((below1 w1 _).cell (by exact hlt1)).trans p1) hbg
    have zf0 := (hgrow.frozen_far ⟨b, 0, none⟩ hla hbg).trans (((below1 w1 _).frozen (by exact hlt1)).trans pf0)
    have zf1 := (hgrow.frozen_far ⟨b, 1, none⟩ hla hbg).trans (((below1 w1 _).frozen (by exact hlt1)).trans HPF1.out)
    have hlt3 : b < w3.heap.size := Nat.lt_of_lt_of_le hla hgrow.size
    have HM3 := Lib.hid ((HM1.out.alloc _).kept hgrow hmg)
    have HB3 := Lib.hid ((HB1.out.trans (Only.below (below1 w1 _))).grownK hgrow (fun k hk => .inr (HO1.out.lt k hk).1))
    have HSM : Hid (w3.cell? ⟨b, 2, none⟩ = W.cell? ⟨b, 2, none⟩ ∧ w3.frozen? ⟨b, 2, none⟩ = W.frozen? ⟨b, 2, none⟩) := Lib.hid (by
      have k1 := same_grown HG1.out hlt hbm 2
      have k2 := same_grown (World.grownBy_alloc w1 (Obj.cells #[Value.string t] 9) none) hlt1 (by simp) 2
      have k3 := same_grown hgrow hla hbg 2
      exact ⟨k3.1.trans (k2.1.trans k1.1), k3.2.trans (k2.2.trans k1.2)⟩)
    have HNG : Hid (NewG W g (Value.slice a4 (n + 1) c4).ownBlock) := Lib.hid (by
      rcases hat with e | e
      · left; rw [e]; exact HG.out
      · right
        exact ⟨_, e, by have := HG1.out.size; simp; omega⟩)
    have HON : Hid (Only (BookP b m g) W w3) := Lib.hid (by
      have o1 : Only (BookP b m g) W w1 := Only.grownP HG1.out (fun k hk => by cases hk; exact .inr (.inl rfl))
      have o2 : Only (BookP b m g) w1 (w1.alloc (Obj.cells #[Value.string t] 9)) := Only.below (below1 w1 _)
      have o3 : Only (BookP b m g) (w1.alloc (Obj.cells #[Value.string t] 9)) w3 := Only.grownP hgrow (fun k hk => .inr (.inr (by rw [← hk]; exact HG.out.symm ▸ rfl)))
      exact (o1.trans o2).trans o3)
    have HO3 := Lib.hid hown'
    have HNE := Lib.hid hne4
    have HN3 : Hid (n + 1 = (ts ++ [t]).length) := Lib.hid (by have := HN.out; simp; omega)
    clear hown' hgrow hat hne4 p0 p1 pf0 hla
    go_wp2
    go_ret
    have hix : ((n : Int)) = hasIx (ts ++ [t]) t := by rw [HX.out, HN.out]
    refine ⟨⟨ret_i hix, _, ⟨by simpa using hlt3, HB.out.ge, HB.out.mge, HB3.out.trans (Only.set w3 _ _ HB.out.ge), ⟨a4, n + 1, c4, set_at z0, row_kept HO3.out (grown_set _ _ _) HNE.out.1, rfl⟩, set_oth (by decide) z1,
      ⟨_, (World.ownsMap.setCell (by have := HM3.out; rw [List.length_append]; exact this) (a := ⟨b, 0, none⟩) hap.2.2 _), by have := HA.out; rwa [← HN.out] at this⟩, ⟨HNE.out.1, HNE.out.2, hap.2.2⟩, by rw [World.frozen?_setCell]; exact zf0, by rw [World.frozen?_setCell]; exact zf1⟩, HNG.out, HON.out.trans (Only.set w3 _ _ (.inl rfl))⟩, (cell_oth _ _ _ _ _ (by decide)).trans HSM.out.1, by rw [World.frozen?_setCell]; exact HSM.out.2⟩
theorem placeOf_any (K : Nat → Prop) (w0 : World) (b m : Nat) (g : Option Nat) (ts : List ByteArray) (t : ByteArray) (W : World) (h : BookAt K w0 W b m g ts) (hl : ts.length ≤ 100000) (ht : t.size ≤ 9223372036854775807) :
    Calls Tryz.prog 61 #[.pointer (some ⟨b, 0, none⟩), .string t] W (PlaceRes K w0 W b m g ts t) := (placeOf_all K w0 b m g ts t W h hl ht).mono fun _ _ h => h.1
end Go.Proofs.YtbfjhjkllaceaaaGreatDoor

/- What a reading of a number hands back. -/
namespace Go.Proofs.YtbfjhjkllaceaaaGreatDoor
open Go.ChangeShapes Go.WideShapes Go.ChangeAt Go.RowKit
set_option linter.unusedVariables false

/-- a struct of three integers is handed back -/
def Res3 (w : World) (x y z : Int) (e : Ending) (w' : World) : Prop :=
  e = .returned (.agg #[.int .i64 x, .int .i64 y, .int .i64 z]) ∧ Below w.heap.size w w'
def vcode (xs : List Int) : Int := if vreadOk xs then 0 else 5
end Go.Proofs.YtbfjhjkllaceaaaGreatDoor

/- errors.Is where the target is the sentinel, and what is asked is nil or the sentinel; readCode. -/
namespace Go.Proofs.YtbfjhjkllaceaaaGreatDoor
open Go.RowKit Go.Extern.Stop Go.Stop Go.Extern
set_option linter.unusedVariables false

theorem isTypeOf (v : Value) (w : World) : (Extern.ReflectliteType.typeOf #[.iface 171 v]).run Tryz.prog w = .ok (.iface 147 (.agg #[.pointer (some ⟨3, 171, none⟩)])) w := by kernel_rfl
def cmpEntry : Array Value → Sem Value := Extern.ReflectliteType.method fun t => do Extern.Rtype.noPackHeld "Comparable" t; pure (.bool (← typeInfo t).comparable)
theorem isComparable (w : World) : (cmpEntry #[.agg #[.pointer (some ⟨3, 171, none⟩)]]).run Tryz.prog w = .ok (.bool true) w := by kernel_rfl
theorem isMethodComparable (v : Value) (w : World) : (Go.method 309 147 v "Comparable").run Tryz.prog w = .ok (148, v) w := by kernel_rfl
theorem isComp : (Tryz.prog.info? 171).map (·.comparable) = some true := by kernel_rfl
theorem isSize : (Tryz.prog.info? 197).map (·.size) = some 1 := by kernel_rfl

/-- an error that is one of errors.New's -/
def errAt (a : Addr) : Value := .iface 171 (.pointer (some a))

/-- errors.Is(x, x), x a pointer to an errors.errorString. -/
theorem is_same (a : Addr) (w : World) :
    Calls Tryz.prog 107 #[.iface 171 (.pointer (some a)), .iface 171 (.pointer (some a))] w fun e w' => e = .returned (.bool true) ∧ w = w' := by
  obtain ⟨i, hi, hcmp⟩ := Option.map_eq_some_iff.1 isComp
  obtain ⟨j, hj, hjs⟩ := Option.map_eq_some_iff.1 isSize
  have h8 := @run_callFunc_extern Tryz.prog 110 _ Extern.ReflectliteType.typeOf Tryz.func110 (by kernel_rfl) (by kernel_rfl) (by kernel_rfl) (by kernel_rfl)
  have h32 := @run_callFunc_extern Tryz.prog 148 _ cmpEntry Tryz.func148 (by kernel_rfl) (by kernel_rfl) (by kernel_rfl) (by kernel_rfl)
  have tT := isTypeOf
  have cT := isComparable
  have mR := isMethodComparable
  have heq := run_eql_iface_ptr_same (P := Tryz.prog) w a Tryz.underlying126 Tryz.underlying171 hi hcmp hj
  go_enter Tryz.func107, Tryz.ntmps107
  go_wp2
  refine wp_loop_rounds 1 ?_
  rw [rounds_succ]
  go_wp2
  go_ret
  exact ⟨rfl, rfl⟩

/-- errors.Is(nil, x). -/
theorem is_nil (b : Addr) (w : World) :
    Calls Tryz.prog 107 #[.nilIface, .iface 171 (.pointer (some b))] w fun e w' => e = .returned (.bool false) ∧ w = w' := by
  have hn := run_eql_iface_nil_left (P := Tryz.prog) w 171 (.pointer (some b)) Tryz.underlying126
  go_enter Tryz.func107, Tryz.ntmps107
  go_wp2
  go_ret
  exact ⟨rfl, rfl⟩

/-- the package's sentinel: its variable holds this error -/
structure Sent (w : World) (a : Addr) : Prop where
  lt : 0 < w.heap.size
  cell : w.cell? ⟨0, 0, none⟩ = some (.iface 171 (.pointer (some a)))
theorem Sent.below {w w' : World} {a : Addr} {B : Nat} (h : Sent w a) (hb : Below B w w') (hB : 0 < B) : Sent w' a :=
  ⟨Nat.lt_of_lt_of_le h.lt hb.size, (hb.cell (p := ⟨0, 0, none⟩) hB).trans h.cell⟩
theorem Sent.kept {w w' : World} {a : Addr} (h : Sent w a) (hb : Below w.heap.size w w') : Sent w' a := h.below hb h.lt
theorem Sent.alloc {w : World} {a : Addr} (h : Sent w a) (o : Obj) : Sent (w.alloc o) a := h.kept (below1 w o)

theorem readCode_nil (a : Addr) (w : World) (h : Sent w a) :
    Calls Tryz.prog 100 #[.nilIface] w fun e w' => e = .returned (.int .i64 0) ∧ w = w' := by
  have hc := h.cell
  have hl := h.lt
  clear h
  go_enter Tryz.func100, Tryz.ntmps100
  go_wp2_with (go_at_call 107; refine (is_nil _ _).mono ?_; rintro e w' ⟨rfl, rfl⟩)
  go_ret
  exact ⟨rfl, rfl⟩
theorem readCode_err (a : Addr) (w : World) (h : Sent w a) :
    Calls Tryz.prog 100 #[.iface 171 (.pointer (some a))] w fun e w' => e = .returned (.int .i64 5) ∧ w = w' := by
  have hc := h.cell
  have hl := h.lt
  clear h
  go_enter Tryz.func100, Tryz.ntmps100
  go_wp2_with (go_at_call 107; refine (is_same _ _).mono ?_; rintro e w' ⟨rfl, rfl⟩)
  go_ret
  exact ⟨rfl, rfl⟩
end Go.Proofs.YtbfjhjkllaceaaaGreatDoor

/- Contracts of varAhead and the program's ReadVar. -/
namespace Go.Proofs.YtbfjhjkllaceaaaGreatDoor
open Go.ChangeShapes Go.WideShapes Go.ChangeAt Go.RowKit
set_option linter.unusedVariables false

/-- the error of a reading -/
def errOf (a : Addr) (ok : Bool) : Value := if ok then .nilIface else .iface 171 (.pointer (some a))
/-- what varAhead answers -/
def AheadRes (xs : List Int) (sa : Addr) (w : World) (e : Ending) (w' : World) : Prop :=
  e = .returned (.tuple #[.int .i64 (vreadN xs), .int .i64 (vreadK xs), errOf sa (vreadOk xs)]) ∧ Below w.heap.size w w'

theorem or_join (s : Nat) (a y : Int) (h0 : 0 ≤ a) (h1 : a < 2 ^ s) (hy : 0 ≤ y) (hb : a + y * 2 ^ s < 9223372036854775808) : bits BinOp.or IntKind.i64 a (y * 2 ^ s) = a + y * 2 ^ s := by
  obtain ⟨A, rfl⟩ := Int.eq_ofNat_of_zero_le h0
  obtain ⟨Y, rfl⟩ := Int.eq_ofNat_of_zero_le hy
  have hc : ((Y : Int) * 2 ^ s) = ((2 ^ s * Y : Nat) : Int) := by push_cast; rw [Int.mul_comm]
  have h1' : A < 2 ^ s := by
    have : ((A : Nat) : Int) < ((2 ^ s : Nat) : Int) := by push_cast; exact h1
    omega
  rw [hc] at hb ⊢
  generalize hP : 2 ^ s * Y = Q at *
  have hk : (BitVec.ofInt 64 (A : Int) ||| BitVec.ofInt 64 (Q : Int)).toNat = Q + A := by
    rw [BitVec.toNat_or, BitVec.toNat_ofInt, BitVec.toNat_ofInt]
    have e1 : ((A : Int) % ((2 ^ 64 : Nat) : Int)).toNat = A := by omega
    have e2 : ((Q : Int) % ((2 ^ 64 : Nat) : Int)).toNat = Q := by omega
    rw [e1, e2, Nat.or_comm, ← hP, Nat.two_pow_add_eq_or_of_lt h1']
  show IntKind.i64.wrap (((BitVec.ofInt 64 (A : Int) ||| BitVec.ofInt 64 (Q : Int)).toNat : Nat) : Int) = _
  rw [hk, IntKind.wrap_i64]
  omega
/-- one more group -/
theorem or_group (l : List Int) (x : Int) (j : Nat) (hl : l.length = j) (h8 : j ≤ 8) : bits BinOp.or IntKind.i64 (vval l) (wrap64 (x % 128 * 2 ^ (7 * j))) = vval (l ++ [x]) := by
  have e : (2 : Int) ^ (7 * j) = 128 ^ j := by rw [Int.pow_mul]; rfl
  have h0 := vval_nonneg l
  have h1 := vval_lt l
  have h2 := vval_le9 (l ++ [x]) (by simp; omega)
  rw [vval_snoc, hl] at h2
  rw [hl] at h1
  rw [vval_snoc, hl, e]
  have hm : 0 ≤ x % 128 := by omega
  have hmm : 0 ≤ x % 128 * 128 ^ j := Int.mul_nonneg hm (Int.pow_nonneg (by decide))
  have hw : wrap64 (x % 128 * 128 ^ j) = x % 128 * 128 ^ j := by unfold wrap64; omega
  rw [hw, ← e]
  rw [← e] at h1 h2 hmm
  exact or_join (7 * j) _ _ h0 h1 hm (by omega)

theorem ret3 {a b c d e f : Value} (h : a = d) (k : b = e) (l : c = f) : Ending.returned (.tuple #[a, b, c]) = .returned (.tuple #[d, e, f]) := by rw [h, k, l]
set_option maxRecDepth 100000 in
set_option maxHeartbeats 3200000 in
theorem varAhead_at (b o c n : Nat) (xs : List Int) (w : World) (sa : Addr) (hs : Sent w sa) (hn : n = xs.length) (hc : n ≤ c) (hm : c ≤ maxLen) (hlt : b < w.heap.size) (hx : ∀ i, i < n → w.cell? ⟨b, o + i, none⟩ = some (.int .u8 (xs.getD i 0)))
    (hby : ∀ i, 0 ≤ xs.getD i 0 ∧ xs.getD i 0 ≤ 255) :
    Calls Tryz.prog 106 #[.slice (some ⟨b, o, none⟩) n c] w (AheadRes xs sa w) := by
  have HX := Lib.hid hx
  have HY := Lib.hid hby
  have HN := Lib.hid hn
  have hsc := hs.cell
  have hsl := hs.lt
  clear hx hby hn hs
  unfold maxLen at hm
  go_enter Tryz.func106, Tryz.ntmps106
  go_wp2
  go_loop [2, 13] (fun m i => ∃ j : Nat, j ≤ n ∧ j ≤ 9 ∧ i = .int .i64 j ∧ m = .int .i64 (vval (xs.take j)) ∧ Hid (∀ i, i < j → 128 ≤ xs.getD i 0)) (fun _ i => n - (intOf i).toNat)
  case atStart => exact ⟨0, Nat.zero_le _, by omega, rfl, rfl, Lib.hid (fun i hi => by omega)⟩
  case round =>
    obtain ⟨j, hj, h9, rfl, rfl, H128⟩ := hrel
    by_cases hjm : j < n ∧ j < 9
    · obtain ⟨hjn, hj9⟩ := hjm
      have hcj := HX.out j hjn
      have hbj := HY.out j
      have hor := or_group (xs.take j) (xs.getD j 0) j (by have := HN.out; simp; omega) (by omega)
      rw [← take_snoc_getD xs j (by have := HN.out; omega)] at hor
      have HOR := Lib.hid hor
      have hv0 := vval_nonneg (xs.take j)
      have HJN : Hid (j < xs.length) := Lib.hid (by have := HN.out; omega)
      clear hor
      by_cases hz : 128 ≤ xs.getD j 0
      · have H128' : Hid (∀ i, i < j + 1 → 128 ≤ xs.getD i 0) := Lib.hid (fun i hi => by
          by_cases h : i < j
          · exact H128.out i h
          · obtain rfl : i = j := by omega
            exact hz)
        generalize xs.getD j 0 = x at hcj hbj hz HOR
        generalize vval (xs.take j) = m at hv0 HOR
        go_wp2
        go_round
        case rel => exact ⟨j + 1, by omega, by omega, by go_num, by rw [HOR.out], H128'⟩
        case measure => simp [intOf]; omega
      · have hlead := lead_is xs j H128.out (by have := HN.out; omega) h9 (fun _ _ => by omega)
        have HLD := Lib.hid hlead
        clear hlead
        by_cases hq : j = 0 ∨ xs.getD j 0 ≠ 0
        · have HOK : Hid (vreadOk xs = true) := Lib.hid (by unfold vreadOk; rw [decide_eq_true_iff, HLD.out]; exact ⟨HJN.out, hj9, hq⟩)
          rcases hq with hq | hq
          · have hj0 : (j : Int) ≤ 0 := by omega
            clear hq
            generalize xs.getD j 0 = x at hcj hbj hz HOR
            generalize vval (xs.take j) = m at hv0 HOR
            cases hx0 : x == 0
            all_goals
              go_wp2
              go_ret3
              obtain ⟨e1, e2⟩ := read_some HLD.out HOK.out
              exact ⟨ret3 (int_eq (by rw [e1]; exact HOR.out)) (int_eq (by rw [e2]; omega)) (by rw [HOK.out]; rfl), Below.refl _ _⟩
          · have hq2 : (xs.getD j 0 == 0) = false := by rw [beq_eq_false_iff_ne]; exact hq
            clear hq
            generalize xs.getD j 0 = x at hcj hbj hz HOR hq2
            generalize vval (xs.take j) = m at hv0 HOR
            go_wp2
            go_ret3
            obtain ⟨e1, e2⟩ := read_some HLD.out HOK.out
            exact ⟨ret3 (int_eq (by rw [e1]; exact HOR.out)) (int_eq (by rw [e2]; omega)) (by rw [HOK.out]; rfl), Below.refl _ _⟩
        · have HOK : Hid (vreadOk xs = false) := Lib.hid (by unfold vreadOk; rw [decide_eq_false_iff_not, HLD.out]; exact fun h => hq h.2.2)
          have hj1 : 0 < (j : Int) := by omega
          have hx0 : xs.getD j 0 = 0 := by
            by_cases h : xs.getD j 0 = 0
            · exact h
            · exact absurd (.inr h) hq
          rw [hx0] at hcj
          clear hx0 hq hz hbj HOR
          generalize vval (xs.take j) = m at hv0
          go_wp2
          go_quiet (fail)
          go_wp2
          go_ret3
          obtain ⟨e1, e2⟩ := read_none HOK.out
          exact ⟨ret3 (int_eq (by rw [e1])) (int_eq (by rw [e2]; rfl)) (by rw [HOK.out]; rfl), below_drewN (Below.refl _ _) _⟩
    · have HL : Hid (vreadOk xs = false) := Lib.hid (by
        have := lead_is xs j H128.out (by have := HN.out; omega) h9 (fun h1 h2 => absurd ⟨by have := HN.out; omega, h2⟩ hjm)
        have h2 := HN.out
        unfold vreadOk
        rw [decide_eq_false_iff_not, this]
        omega)
      have hmin : ¬ ((j : Int) < max (min (n : Int) 9) 0) := by omega
      generalize vval (xs.take j) = m
      go_wp2
      go_quiet (fail)
      go_wp2
      go_ret3
      obtain ⟨e1, e2⟩ := read_none HL.out
      exact ⟨ret3 (int_eq (by rw [e1])) (int_eq (by rw [e2]; rfl)) (by rw [HL.out]; rfl), below_drewN (Below.refl _ _) _⟩

set_option maxHeartbeats 800000 in
theorem varAhead_nil (w : World) (sa : Addr) (hs : Sent w sa) :
    Calls Tryz.prog 106 #[.slice none 0 0] w (AheadRes [] sa w) := by
  have hsc := hs.cell
  have hsl := hs.lt
  have HL : Hid (vreadOk [] = false) := Lib.hid (by decide)
  clear hs
  go_enter Tryz.func106, Tryz.ntmps106
  go_wp2
  go_loop [13] (fun i => i = .int .i64 0) (fun i => 0)
  case atStart => rfl
  case round =>
    obtain rfl := hrel
    go_wp2
    go_quiet (fail)
    go_wp2
    go_ret3
    obtain ⟨e1, e2⟩ := read_none HL.out
    exact ⟨ret3 (int_eq (by rw [e1])) (int_eq (by rw [e2]; rfl)) (by rw [HL.out]; rfl), below_drewN (Below.refl _ _) _⟩

theorem varAhead_any (a : Option Addr) (n c : Nat) (xs : List Int) (w : World) (sa : Addr) (hs : Sent w sa) (hn : n = xs.length) (h : Row w .u8 (.slice a n c) xs) (hby : ∀ i, 0 ≤ xs.getD i 0 ∧ xs.getD i 0 ≤ 255) :
    Calls Tryz.prog 106 #[.slice a n c] w (AheadRes xs sa w) := by
  rcases h with ⟨hv, h0⟩ | ⟨b, o, cap, hv, h1, h2, h3, h4⟩
  · simp only [Value.slice.injEq] at hv
    obtain ⟨rfl, rfl, rfl⟩ := hv
    subst h0
    exact varAhead_nil w sa hs
  · simp only [Value.slice.injEq] at hv
    obtain ⟨rfl, rfl, rfl⟩ := hv
    exact varAhead_at b o c xs.length xs w sa hs rfl h1 h2 h3 h4 hby

set_option maxHeartbeats 800000 in
theorem implReadVar_any (a : Option Addr) (n c : Nat) (xs : List Int) (w : World) (sa : Addr) (hs : Sent w sa) (hn : n = xs.length) (h : Row w .u8 (.slice a n c) xs) (hby : ∀ i, 0 ≤ xs.getD i 0 ∧ xs.getD i 0 ≤ 255) :
    Calls Tryz.prog 98 #[.slice a n c] w (Res3 w (vcode xs) (vreadN xs) (vreadK xs)) := by
  have K := Lib.hid (fun (W : World) (hW : Below w.heap.size w W) => varAhead_any a n c xs W sa (hs.kept hW) hn (h.below hW) hby)
  have HS := Lib.hid hs
  unfold AheadRes errOf at K
  clear hn h hby hs
  cases hk : vreadOk xs
  · have e3 : vcode xs = 5 := by unfold vcode; rw [hk]; rfl
    rw [e3]
    rw [hk] at K
    simp only [Bool.false_eq_true, if_false] at K
    generalize vreadK xs = k at *
    generalize vreadN xs = v at *
    clear e3 hk
    go_enter Tryz.func98, Tryz.ntmps98
    go_wp2_with fail
    refine (K.out _ (below1 _ _)).mono ?_
    rintro e w1 ⟨rfl, hb⟩
    have KR := Lib.hid (readCode_err sa w1 ((HS.out.alloc _).kept hb))
    obtain ⟨hc, hf⟩ := bcell hb
    have hz := hb.size
    simp at hz
    go_wp2_with fail
    refine KR.out.mono ?_
    rintro e w' ⟨rfl, rfl⟩
    go_wp2
    exact bodyPost_ret (v := .agg #[.int .i64 5, .int .i64 v, .int .i64 k]) (by simp [results, Tryz.results98, go_sem, hc]) rfl
      ⟨rfl, ((((below1 w _).trans (hb.mono (by simp))).setCell (by simp) _).setCell (by simp) _).setCell (by simp) _⟩
  · have e3 : vcode xs = 0 := by unfold vcode; rw [hk]; rfl
    rw [e3]
    rw [hk] at K
    simp only [if_true] at K
    generalize vreadK xs = k at *
    generalize vreadN xs = v at *
    clear e3 hk
    go_enter Tryz.func98, Tryz.ntmps98
    go_wp2_with fail
    refine (K.out _ (below1 _ _)).mono ?_
    rintro e w1 ⟨rfl, hb⟩
    have KR := Lib.hid (readCode_nil sa w1 ((HS.out.alloc _).kept hb))
    obtain ⟨hc, hf⟩ := bcell hb
    have hz := hb.size
    simp at hz
    go_wp2_with fail
    refine KR.out.mono ?_
    rintro e w' ⟨rfl, rfl⟩
    go_wp2
    exact bodyPost_ret (v := .agg #[.int .i64 0, .int .i64 v, .int .i64 k]) (by simp [results, Tryz.results98, go_sem, hc]) rfl
      ⟨rfl, ((((below1 w _).trans (hb.mono (by simp))).setCell (by simp) _).setCell (by simp) _).setCell (by simp) _⟩
end Go.Proofs.YtbfjhjkllaceaaaGreatDoor

/- The iterator over the points of a text. -/
namespace Go.Proofs.YtbfjhjkllaceaaaGreatDoor
open Go.RowKit Go.Shelf
set_option linter.unusedVariables false

attribute [local go_sem] Oper.semAt_some

/-- the two tables' variables lie below B -/
structure GsLt (B : Nat) : Prop where
  a : 1 < B
  b : 2 < B
theorem GsLt.mono {B B' : Nat} (h : GsLt B) (hle : B ≤ B') : GsLt B' := ⟨Nat.lt_of_lt_of_le h.a hle, Nat.lt_of_lt_of_le h.b hle⟩
abbrev Tabs (w : World) : Prop := Lib.Utf8Tabs 1 2 w
theorem cell_some_lt {w : World} {a : Addr} {v : Value} (h : w.cell? a = some v) : a.block < w.heap.size := by
  unfold World.cell? at h
  rcases Nat.lt_or_ge a.block w.heap.size with h1 | h1
  · exact h1
  · rw [Array.getElem?_eq_none h1] at h
    simp at h
theorem gs_of_tabs {w : World} (h : Tabs w) : GsLt w.heap.size :=
  ⟨cell_some_lt (h.1 0 (by decide)), cell_some_lt (h.2 0 (by decide)).1⟩
theorem tabs_below {B : Nat} {w w' : World} (h : Tabs w) (hb : Below B w w') (hB : GsLt B) : Tabs w' :=
  ⟨fun c hc => (hb.cell (p := ⟨1, c, none⟩) hB.a).trans (h.1 c hc),
   fun i hi => ⟨(hb.cell (p := ⟨2, 2 * i, none⟩) hB.b).trans (h.2 i hi).1, (hb.cell (p := ⟨2, 2 * i + 1, none⟩) hB.b).trans (h.2 i hi).2⟩⟩
/-- the tables stay, whatever is made behind them -/
theorem tabs_kept {w w' : World} (h : Tabs w) (hb : Below w.heap.size w w') : Tabs w' := tabs_below h hb (gs_of_tabs h)

theorem decodeGo_L (u : ByteArray) (h : 0 < u.size) : Lib.decodeGo u = Lib.decodeL u.data.toList := by
  unfold Lib.decodeGo
  rw [if_neg (by omega)]
  have := Lib.decodeL_drop u 0
  rw [List.drop_zero] at this
  exact this.symm
theorem decodeL_bound (l : List UInt8) : (Lib.decodeL l).1 ≤ 1114111 := by
  rw [Lib.decodeL_N]
  have k0 := (l.getD 0 0).toNat_lt
  have k1 := (l.getD 1 0).toNat_lt
  have k2 := (l.getD 2 0).toNat_lt
  have k3 := (l.getD 3 0).toNat_lt
  rcases Lib.decodeN_shape l.length (l.getD 0 0).toNat (l.getD 1 0).toNat (l.getD 2 0).toNat (l.getD 3 0).toNat with ⟨c, e⟩ | ⟨c1, c2, c3, cv, e⟩ | ⟨c1, c2, c3, c4, cv, cs, e⟩ | ⟨c1, c2, c3, c4, c5, cv, cw, e⟩ | e
  all_goals (rw [e]; dsimp only; omega)

/-- the decoding of what stands at a place -/
theorem decode_at' (s : ByteArray) (pos : Nat) (hp : pos < s.size) (w : World) (hT : Tabs w) :
    Calls Tryz.prog 116 #[.string (s.extract pos s.size)] w fun e w' =>
      e = .returned (.tuple #[.int .i32 ((Lib.decodeL (s.data.toList.drop pos)).1 : Int), .int .i64 ((Lib.decodeL (s.data.toList.drop pos)).2 : Int)]) ∧ Below w.heap.size w w' := by
  have h := Tryz.utf8_DecodeRuneInString (s.extract pos s.size) w hT
  rw [decodeGo_L _ (by rw [ByteArray.size_extract]; omega), Lib.extract_to_end] at h
  exact h

/-- what a round keeps: all below n₀, and the text's box -/
structure KpT (n₀ Bs : Nat) (W W' : World) : Prop where
  bel : Below n₀ W W'
  box : W'.heap[Bs]? = W.heap[Bs]?
theorem KpT.refl (n₀ Bs : Nat) (W : World) : KpT n₀ Bs W W := ⟨Below.refl _ _, rfl⟩
theorem KpT.trans {n₀ Bs : Nat} {A B C : World} (h : KpT n₀ Bs A B) (k : KpT n₀ Bs B C) : KpT n₀ Bs A C := ⟨h.bel.trans k.bel, k.box.trans h.box⟩
theorem KpT.of_below {n₀ Bs : Nat} {W W' : World} (h : Below W.heap.size W W') (hn : n₀ ≤ W.heap.size) (hB : Bs < W.heap.size) : KpT n₀ Bs W W' := ⟨h.mono hn, h.block Bs hB⟩
theorem KpT.cell {n₀ Bs : Nat} {W W' : World} (h : KpT n₀ Bs W W') (o : Nat) : W'.cell? ⟨Bs, o, none⟩ = W.cell? ⟨Bs, o, none⟩ := World.cell?_of_block (w := W) h.box
theorem kpT_b {n₀ Bs : Nat} {w : World} (hn : n₀ ≤ w.heap.size) (hB : Bs < w.heap.size) (W : World) (l : Nat) (o o' : Obj) (hl : w.heap.size ≤ l) (h : W.heap[l]? = some o) (h1 : o.isCells = false) (h2 : o.isWalk = false) : KpT n₀ Bs W (W.putObj l o') :=
  ⟨belowK_b hn W l o o' hl h h1 h2, World.putObj_heap_other (by omega)⟩

def encP (x : Int × Bool) : Array Value := #[.int .i64 x.1, .bool x.2]

set_option maxRecDepth 100000 in
set_option maxHeartbeats 4000000 in
theorem iter_in (n : Nat) (hn : 1 ≤ n) (l Bs n₀ : Nat) (s : ByteArray) (hs : s.size ≤ 1048576) (h2 : GsLt n₀) (B : Nat) (J Jx : List (Int × Bool) → World → Prop) (hJ : AbidesFrom B J)
    (hY : ∀ pre x W, J pre W → pre.length < (strm s.data.toList).length → YieldAt Fence.wide (n - 1) Tryz.prog l (encP x) W fun e W' =>
      (e = .returned (.bool true) ∧ J (pre ++ [x]) W' ∧ KpT n₀ Bs W W') ∨ (e = .returned (.bool false) ∧ Jx (pre ++ [x]) W'))
    (W : World) (hW : n₀ ≤ W.heap.size) (hBn : Bs < W.heap.size) (hBs : W.cell? ⟨Bs, 0, none⟩ = some (.string s)) (hT : Tabs W) (h0 : J [] W) :
    CallsIn Fence.wide n Tryz.prog 115 #[.func (.yield l) #[] #[], .pointer (some ⟨Bs, 0, none⟩)] W fun e W' => (∃ v, e = .returned v) ∧
      ((∃ ys, ys = strm s.data.toList ∧ J ys W') ∨ (∃ pre, pre <+: strm s.data.toList ∧ Jx pre W')) := by
  refine callsIn_of_wp Tryz.func115 rfl trivial ?_ rfl
  simp only [Tryz.ntmps115, List.size_toArray, List.length_cons, List.length_nil, Nat.reduceAdd, Nat.reduceSub, Array.replicate_succ, Array.replicate_zero, List.push_toArray, List.append_toArray, List.nil_append, List.cons_append]
  gi_wp2
  gi_loopw [3] (fun i wr => ∃ (pos : Nat) (pre : List (Int × Bool)), pos ≤ s.size ∧ i = .int .i64 pos ∧ strm s.data.toList = pre ++ strm (s.data.toList.drop pos) ∧ J pre wr ∧ KpT n₀ Bs W wr)
    (fun i _ => s.size - (intOf i).toNat)
  case atStart => exact ⟨0, [], Nat.zero_le _, rfl, rfl, h0, KpT.refl _ _ _⟩
  case round =>
    obtain ⟨pos, pre, hpos, rfl, hst, hJs, hnx⟩ := hrel
    have hBs' : wr.cell? ⟨Bs, 0, none⟩ = some (.string s) := (hnx.cell 0).trans hBs
    have HT := Lib.hid (tabs_below hT hnx.bel h2)
    have HW := Lib.hid (Nat.le_trans hW hnx.bel.size)
    have HST := Lib.hid hst
    have HNX := Lib.hid hnx
    have hBw : Bs < wr.heap.size := Nat.lt_of_lt_of_le hBn hnx.bel.size
    clear hst hnx
    by_cases hlt : pos < s.size
    · have hne : s.data.toList.drop pos ≠ [] := by
        intro h
        have := congrArg List.length h
        rw [List.length_drop, show s.data.toList.length = s.size by simp] at this
        simp at this
        omega
      have K := Lib.hid (fun WW (hTT : Tabs WW) => callsIn_wide (n := n - 1).2 (decode_at' s pos hlt WW hTT))
      have hwd := Lib.decodeL_width (s.data.toList.drop pos)
      have hle := Lib.decodeL_le (s.data.toList.drop pos) hne
      rw [List.length_drop, show s.data.toList.length = s.size by simp] at hle
      have hbo := decodeL_bound (s.data.toList.drop pos)
      have hpl : pre.length < (strm s.data.toList).length := by
        rw [HST.out, List.length_append]
        cases hb : badB (s.data.toList.drop pos)
        · rw [strm_step _ hne hb, List.length_cons]; omega
        · rw [strm_bad _ hne hb, List.length_cons]; omega
      have HPL := Lib.hid hpl
      clear hpl
      cases hbd : badB (s.data.toList.drop pos)
      · have HN := Lib.hid (strm_step _ hne hbd)
        rw [List.drop_drop] at HN
        have hnb : ¬ ((Lib.decodeL (s.data.toList.drop pos)).1 = 65533 ∧ (Lib.decodeL (s.data.toList.drop pos)).2 = 1) := by
          unfold badB at hbd
          exact of_decide_eq_false hbd
        clear hne hbd
        generalize (Lib.decodeL (s.data.toList.drop pos)).1 = r at K hbo HN hnb
        generalize (Lib.decodeL (s.data.toList.drop pos)).2 = k at K hwd hle HN hnb
        have hr2 : (r : Int) ≤ 1114111 := by omega
        have hk2 : (pos : Int) + (k : Int) ≤ (s.size : Int) := by omega
        have hs2 : (s.size : Int) ≤ 1048576 := by omega
        by_cases hr : r = 65533
        · have hk1 : ((k : Int) == 1) = false := by rw [beq_eq_false_iff_ne]; omega
          have hr1 : ((r : Int) == 65533) = true := by rw [beq_iff_eq]; omega
          clear hr hnb
          gi_wp2_with fail
          refine ⟨trivial, (K.out _ HT.out).mono ?_⟩
          rintro e w1 ⟨rfl, hb1⟩
          have hJ1 : J pre w1 := hJ pre wr w1 none hJs ⟨hb1.os, hb1.tape, hb1.output, hb1.size, fun i hi _ => hb1.block i hi⟩ (fun r e => by cases e)
          have HN1 := Lib.hid (HNX.out.trans (KpT.of_below hb1 HW.out hBw))
          have hBs1 : w1.cell? ⟨Bs, 0, none⟩ = some (.string s) := (hb1.cell (p := ⟨Bs, 0, none⟩) hBw).trans hBs'
          obtain ⟨fn, tmps, assign, body, hy, hR⟩ := hY pre ((r : Int), true) w1 hJ1 HPL.out
          dsimp only [encP] at hy
          clear hb1 hY
          gi_wp2
          refine hR.mono ?_
          rintro e W3 (⟨rfl, hJ3, hk3⟩ | ⟨rfl, hJx3⟩)
          · gi_wp2
            go_roundw
            case rel => exact ⟨pos + k, pre ++ [((r : Int), true)], by omega, by go_num, by rw [HST.out, HN.out]; simp, hJ3, HN1.out.trans hk3⟩
            case measure => simp [intOf]; omega
          · gi_wp2
            refine bodyPost_ret (results_none rfl _ _ _) rfl ?_
            exact ⟨⟨_, rfl⟩, .inr ⟨pre ++ [((r : Int), true)], ⟨strm (s.data.toList.drop (pos + k)), by rw [HST.out, HN.out]; simp⟩, hJx3⟩⟩
        · have hr1 : ((r : Int) == 65533) = false := by rw [beq_eq_false_iff_ne]; omega
          clear hr hnb
          gi_wp2_with fail
          refine ⟨trivial, (K.out _ HT.out).mono ?_⟩
          rintro e w1 ⟨rfl, hb1⟩
          have hJ1 : J pre w1 := hJ pre wr w1 none hJs ⟨hb1.os, hb1.tape, hb1.output, hb1.size, fun i hi _ => hb1.block i hi⟩ (fun r e => by cases e)
          have HN1 := Lib.hid (HNX.out.trans (KpT.of_below hb1 HW.out hBw))
          have hBs1 : w1.cell? ⟨Bs, 0, none⟩ = some (.string s) := (hb1.cell (p := ⟨Bs, 0, none⟩) hBw).trans hBs'
          obtain ⟨fn, tmps, assign, body, hy, hR⟩ := hY pre ((r : Int), true) w1 hJ1 HPL.out
          dsimp only [encP] at hy
          clear hb1 hY
          gi_wp2
          refine hR.mono ?_
          rintro e W3 (⟨rfl, hJ3, hk3⟩ | ⟨rfl, hJx3⟩)
          · gi_wp2
            go_roundw
            case rel => exact ⟨pos + k, pre ++ [((r : Int), true)], by omega, by go_num, by rw [HST.out, HN.out]; simp, hJ3, HN1.out.trans hk3⟩
            case measure => simp [intOf]; omega
          · gi_wp2
            refine bodyPost_ret (results_none rfl _ _ _) rfl ?_
            exact ⟨⟨_, rfl⟩, .inr ⟨pre ++ [((r : Int), true)], ⟨strm (s.data.toList.drop (pos + k)), by rw [HST.out, HN.out]; simp⟩, hJx3⟩⟩
      · have HN := Lib.hid (strm_bad _ hne hbd)
        have hd : (Lib.decodeL (s.data.toList.drop pos)).1 = 65533 ∧ (Lib.decodeL (s.data.toList.drop pos)).2 = 1 := by
          unfold badB at hbd
          exact of_decide_eq_true hbd
        rw [hd.1, hd.2] at K
        clear hne hbd hd hwd hle hbo
        gi_wp2_with fail
        refine ⟨trivial, (K.out _ HT.out).mono ?_⟩
        rintro e w1 ⟨rfl, hb1⟩
        have hJ1 : J pre w1 := hJ pre wr w1 none hJs ⟨hb1.os, hb1.tape, hb1.output, hb1.size, fun i hi _ => hb1.block i hi⟩ (fun r e => by cases e)
        have HN1 := Lib.hid (HNX.out.trans (KpT.of_below hb1 HW.out hBw))
        have hBs1 : w1.cell? ⟨Bs, 0, none⟩ = some (.string s) := (hb1.cell (p := ⟨Bs, 0, none⟩) hBw).trans hBs'
        obtain ⟨fn, tmps, assign, body, hy, hR⟩ := hY pre ((0 : Int), false) w1 hJ1 HPL.out
        dsimp only [encP] at hy
        clear hb1 hY
        gi_wp2
        refine hR.mono ?_
        rintro e W3 (⟨rfl, hJ3, hk3⟩ | ⟨rfl, hJx3⟩)
        · gi_wp2
          refine bodyPost_ret (results_none rfl _ _ _) rfl ?_
          exact ⟨⟨_, rfl⟩, .inl ⟨_, by rw [HST.out, HN.out], hJ3⟩⟩
        · gi_wp2
          refine bodyPost_ret (results_none rfl _ _ _) rfl ?_
          exact ⟨⟨_, rfl⟩, .inr ⟨_, ⟨[], by rw [HST.out, HN.out]; simp⟩, hJx3⟩⟩
    · obtain rfl : pos = s.size := by omega
      gi_wp2
      go_end0
      refine ⟨⟨_, rfl⟩, .inl ⟨pre, ?_, hJs⟩⟩
      have h := HST.out
      rw [List.drop_eq_nil_of_le (by rw [show s.data.toList.length = s.size by simp]; exact Nat.le_refl _), strm_nil, List.append_nil] at h
      exact h.symm

/-- the iterator's value: the text in a box -/
theorem pointsIn_in (n : Nat) (s : ByteArray) (w : World) :
    CallsIn Fence.wide n Tryz.prog 112 #[.string s] w fun e w' => e = .returned (.func (.func 115) #[] #[.pointer (some ⟨w.heap.size, 0, none⟩)]) ∧ w' = w.alloc (.cells #[.string s] 9) := by
  refine callsIn_of_wp Tryz.func112 rfl trivial ?_ rfl
  simp only [Tryz.ntmps112, List.size_toArray, List.length_cons, List.length_nil, Nat.reduceAdd, Nat.reduceSub, Array.replicate_succ, Array.replicate_zero, List.push_toArray, List.append_toArray, List.nil_append, List.cons_append]
  gi_wp2
  go_ret
  exact ⟨rfl, rfl⟩

theorem iter_stops (n : Nat) (hn : 1 ≤ n) (Bs n₀ : Nat) (s : ByteArray) (hs : s.size ≤ 1048576) (h2 : GsLt n₀) (w : World) (hB : Bs < w.heap.size) (hn₀ : n₀ ≤ w.heap.size) (hc : w.cell? ⟨Bs, 0, none⟩ = some (.string s))
    (hT : Tabs w) :
    SeqStopsK Fence.wide n Tryz.prog 115 #[.pointer (some ⟨Bs, 0, none⟩)] encP (KpT n₀ Bs) (fun ys => ys = strm s.data.toList) (fun pre => pre <+: strm s.data.toList) (strm s.data.toList).length w :=
  fun l J Jx W hW hJ hJx hY h0 =>
    iter_in n hn l Bs n₀ s hs h2 W.heap.size J Jx hJ hY W (Nat.le_trans hn₀ hW.size) (Nat.lt_of_lt_of_le hB hW.size) ((hW.cell (p := ⟨Bs, 0, none⟩) hB).trans hc) (tabs_kept hT hW) h0

/-- a call that only made memory turns nothing else -/
theorem keeps_below {W W' : World} (h : Below W.heap.size W W') : KeepsOthers W W' :=
  ⟨h.size, fun k o hk _ => (h.block k (Array.getElem?_eq_some_iff.1 hk).1).trans hk⟩
end Go.Proofs.YtbfjhjkllaceaaaGreatDoor

/- Contract of the program's TextFault. -/
namespace Go.Proofs.YtbfjhjkllaceaaaGreatDoor
open Go.RowKit Go.Shelf
set_option linter.unusedVariables false

attribute [local go_sem] Oper.semAt_some

theorem bool_int {a b : Int} (h : a = b) : Ending.returned (.int .i64 a) = .returned (.int .i64 b) := by rw [h]
def cfault (b : Bool) : Int := if b then 0 else 5
theorem prefix_bad {l : List UInt8} {pre : List (Int × Bool)} (hp : pre <+: strm l) (hb : pre.all goodB = false) : charsB l = false := by
  unfold charsB
  rw [Bool.eq_false_iff] at hb ⊢
  intro h
  apply hb
  rw [List.all_eq_true] at h ⊢
  exact fun x hx => h x (hp.subset hx)

set_option maxRecDepth 100000 in
set_option maxHeartbeats 4000000 in
theorem implTextFault_in (s : ByteArray) (hs : s.size ≤ 60) (w : World) (hT : Tabs w) :
    CallsIn Fence.wide 6 Tryz.prog 108 #[.string s] w fun e W' => e = .returned (.int .i64 (cfault (charsB s.data.toList))) ∧ Below w.heap.size w W' := by
  refine callsIn_of_wp_marks Tryz.func108 rfl trivial ?_ rfl
  simp only [Tryz.ntmps108, List.size_toArray, List.length_cons, List.length_nil, Nat.reduceAdd, Nat.reduceSub, Array.replicate_succ, Array.replicate_zero, List.push_toArray, List.append_toArray, List.nil_append, List.cons_append]
  gi_wp2_with (refine ⟨trivial, ?_⟩; gi_at_call 112; refine (pointsIn_in _ _ _).mono ?_; rintro e w' ⟨rfl, rfl⟩)
  have bR := Boxed.new w 2 (.int .i64 0)
  have bT := Boxed.new (w.alloc (.cells #[.int .i64 0] 2)) 9 (.string s)
  rw [World.size_alloc] at bT
  have hB0 : Below w.heap.size w ((w.alloc (.cells #[.int .i64 0] 2)).alloc (.cells #[.string s] 9)) := below2 w _ _
  refine wpIn_rangeFunc_ownF rfl (by omega) (gf := 115) (lb := #[.pointer (some ⟨w.heap.size + 1, 0, none⟩)]) rfl trivial (enters_of Tryz.func115 (by kernel_rfl) rfl)
    (iter_stops _ (by omega) (w.heap.size + 1) w.heap.size s (by omega) (gs_of_tabs hT) _ (by simp) (by simp; omega) bT.cell (tabs_kept hT hB0)) (fun h k => KpT.trans h k) (kpT_b (by simp; omega) (by simp)) (Below.refl _ _) (fun _ => rfl)
    (fun pre W => (pre.all goodB = true ∧ Boxed W w.heap.size 2 (.int .i64 0) ∧ Boxed W (w.heap.size + 1) 9 (.string s)) ∧ Below w.heap.size w W)
    (fun c pre W => (c = .ret ∧ pre.all goodB = false ∧ Boxed W w.heap.size 2 (.int .i64 5)) ∧ Below w.heap.size w W)
    (OwnFrom.and (Own.from (fun s A B row hs hg hr => ⟨hs.1, hs.2.1.kept hg (fun e => by obtain ⟨o, ho, hc⟩ := hr _ e.symm; rw [show A.heap[_]? = _ from hs.2.1] at ho; cases ho; cases hc), hs.2.2.kept hg (fun e => by obtain ⟨o, ho, hc⟩ := hr _ e.symm; rw [show A.heap[_]? = _ from hs.2.2] at ho; cases ho; cases hc)⟩) _) (ownFrom_below (Nat.le_refl _) (by simp; omega)))
    (fun c => OwnFrom.and (Own.from (fun s A B row hs hg hr => ⟨hs.1, hs.2.1, hs.2.2.kept hg (fun e => by obtain ⟨o, ho, hc⟩ := hr _ e.symm; rw [show A.heap[_]? = _ from hs.2.2] at ho; cases ho; cases hc)⟩) _) (ownFrom_below (Nat.le_refl _) (by simp; omega)))
    ⟨⟨rfl, bR.alloc _, bT⟩, hB0⟩
    (fun x => { tmps := #[.string s, undef, .pointer (some ⟨w.heap.size, 0, none⟩), .int .i64 x.1, .bool x.2, .string s, .int .i64 s.size, .bool (decide ((60 : Int) < (s.size : Int))), .string s, .func (.func 115) #[] #[.pointer (some ⟨w.heap.size + 1, 0, none⟩)], .int .i64 x.1, .bool x.2, undef, undef, undef, undef, undef, undef, undef], defers := [] }) ?assign ?body ?done ?stop
  case assign =>
    intro l x W K hK
    unfold encP
    gi_wp2
    exact hK
  case body =>
    rintro l pre ⟨p, ok⟩ W ⟨⟨hall, hR, hTx⟩, hB⟩ _
    have hc := hR.cell
    have hf := hR.frozen
    have HA := Lib.hid hall
    clear hall
    cases ok
    · gi_wp2
      refine ⟨trivial, ?_⟩
      gi_wp2
      exact ⟨KeepsOthers.setCell _ _ _, ⟨rfl, by rw [List.all_append, HA.out]; rfl, hR.set _⟩, hB.setCell (p := ⟨w.heap.size, 0, none⟩) (Nat.le_refl _) _⟩
    · cases hcb : charB p
      · have HC := Lib.hid hcb
        gi_wp2_with (refine ⟨trivial, ?_⟩; gi_at_call 113; refine (CallsIn.inRound l (callsIn_wide.2 (implIsChar_any p _))).mono ?_; rintro e w1 ⟨rfl, hb1⟩; have hR1 : Boxed w1 w.heap.size 2 (.int .i64 0) := (hb1.block _ hR.lt).trans hR; have hc1 := hR1.cell; have hf1 := hR1.frozen)
        exact ⟨(keeps_below hb1).trans (KeepsOthers.setCell _ _ _), ⟨rfl, by rw [List.all_append, HA.out]; simp [goodB, HC.out], hR1.set _⟩, (hB.trans (hb1.mono hB.size)).setCell (p := ⟨w.heap.size, 0, none⟩) (Nat.le_refl _) _⟩
      · have HC := Lib.hid hcb
        gi_wp2_with (refine ⟨trivial, ?_⟩; gi_at_call 113; refine (CallsIn.inRound l (callsIn_wide.2 (implIsChar_any p _))).mono ?_; rintro e w1 ⟨rfl, hb1⟩)
        exact ⟨keeps_below hb1, KpT.of_below hb1 hB.size hTx.lt, ⟨by rw [List.all_append, HA.out]; simp [goodB, HC.out], (hb1.block _ hR.lt).trans hR, (hb1.block _ hTx.lt).trans hTx⟩, hB.trans (hb1.mono hB.size)⟩
  case done =>
    rintro D ys W hD rfl ⟨⟨hall, hR, hTx⟩, hB⟩ hK
    have hc := hR.cell
    have hf := hR.frozen
    gi_wp2
    have hK' := (KeepsOthers.setCell W ⟨w.heap.size, 0, none⟩ (.int .i64 0)).same D _ hK rfl
    refine ⟨by simp, .inl ⟨_, _, rfl, run_takeDeferred hK', ?_⟩⟩
    have hc5 := cell_kept (hR.set (.int .i64 0)).cell (grownBy_putObj' _ D (.deferred none)) (fun r e => by cases e; exact ⟨_, hK', rfl⟩)
    refine ⟨.int .i64 0, ?_, bool_int (by unfold charsB; rw [hall]; rfl), (hB.setCell (p := ⟨w.heap.size, 0, none⟩) (Nat.le_refl _) _).trans (belowK_b (w := w) (Nat.le_refl _) _ D _ _ (by simp at hD; omega) hK' rfl rfl)⟩
    simp [results, Tryz.f108, go_sem, hc5]
  case stop =>
    rintro D c pre W hD hpre ⟨⟨rfl, hbad, hR⟩, hB⟩ hK
    gi_wp2
    refine ⟨by simp, .inl ⟨_, _, rfl, run_takeDeferred hK, ?_⟩⟩
    have hc5 := cell_kept hR.cell (grownBy_putObj' _ D (.deferred none)) (fun r e => by cases e; exact ⟨_, hK, rfl⟩)
    refine ⟨.int .i64 5, ?_, bool_int (by rw [prefix_bad hpre hbad]; rfl), hB.trans (belowK_b (w := w) (Nat.le_refl _) W D _ _ (by simp at hD; omega) hK rfl rfl)⟩
    simp [results, Tryz.f108, go_sem, hc5]

/-- the program's TextFault -/
theorem implTextFault_any (s : ByteArray) (hs : s.size ≤ maxLen) (w : World) (hT : Tabs w) :
    Calls Tryz.prog 108 #[.string s] w fun e w' => e = .returned (.int .i64 (textFault s.data.toList)) ∧ Below w.heap.size w w' := by
  have hl : s.data.toList.length = s.size := by simp
  unfold textFault
  rw [hl]
  by_cases h : 60 < s.size
  · rw [if_pos h]
    clear hl
    unfold maxLen at hs
    go_enter Tryz.func108, Tryz.ntmps108
    go_wp2
    exact bodyPost_ret (v := .int .i64 2) (by simp [results, Tryz.results108, go_sem]) rfl ⟨rfl, below1 w _⟩
  · rw [if_neg h]
    exact callsIn_wide.1 (implTextFault_in s (by omega) w hT)
end Go.Proofs.YtbfjhjkllaceaaaGreatDoor
