/- Texts laid together, part 6. -/
import Derived.Test.YtbfjhjkllaceaaaGreatDoorGB5
import Derived.Deep.RegionHeld3

/- The model's l6Has, l6Add, l6Ref. -/
namespace Go.Proofs.YtbfjhjkllaceaaaGreatDoor
open Go.ChangeShapes Go.WideShapes Go.ChangeAt Go.RowKit
set_option linter.unusedVariables false

/-- the place of a text among texts, or -1 -/
def hasIx (ts : List ByteArray) (t : ByteArray) : Int := if ts.findIdx (fun x => x.toList == t.toList) < ts.length then (ts.findIdx (fun x => x.toList == t.toList) : Int) else -1
theorem hasIx_bd (ts : List ByteArray) (t : ByteArray) : -1 ≤ hasIx ts t ∧ hasIx ts t < ts.length := by
  unfold hasIx
  split <;> omega
/-- texts with one more, if it is not among them -/
def addT (ts : List ByteArray) (t : ByteArray) : List ByteArray := if 0 ≤ hasIx ts t then ts else ts ++ [t]
theorem addT_length (ts : List ByteArray) (t : ByteArray) : (addT ts t).length ≤ ts.length + 1 := by
  unfold addT
  split <;> simp

set_option maxHeartbeats 1600000 in
theorem l6Has_any (v : Value) (ts : List ByteArray) (t : ByteArray) (w : World) (h : RowS w v ts) :
    Calls Tryz.prog 94 #[v, .string t] w fun e w' => e = .returned (.int .i64 (hasIx ts t)) ∧ ∃ n, w' = w.drewN n := by
  have hle := List.findIdx_le_length (xs := ts) (p := fun x => x.toList == t.toList)
  have hat : ∀ h : ts.findIdx (fun x => x.toList == t.toList) < ts.length, ((ts.getD (ts.findIdx (fun x => x.toList == t.toList)) ByteArray.empty).toList == t.toList) = true := fun h => by
    have := List.findIdx_getElem (xs := ts) (p := fun x => x.toList == t.toList) (w := h)
    rw [List.getD_eq_getElem?_getD, List.getElem?_eq_getElem h]
    exact this
  have hlt : ∀ j, j < ts.findIdx (fun x => x.toList == t.toList) → j < ts.length → ((ts.getD j ByteArray.empty).toList == t.toList) = false := fun j hj hl => by
    have := List.not_of_lt_findIdx (xs := ts) (p := fun x => x.toList == t.toList) hj
    rw [List.getD_eq_getElem?_getD, List.getElem?_eq_getElem hl]
    simpa using this
  unfold hasIx
  generalize hm : ts.findIdx (fun x => x.toList == t.toList) = m at hle hat hlt ⊢
  generalize hr : (if m < ts.length then (m : Int) else -1) = r
  have HR := Lib.hid hr
  have HAT := Lib.hid hat
  have HLT := Lib.hid hlt
  clear hr hat hlt hm
  rcases h with ⟨rfl, rfl⟩ | ⟨b, o, cap, rfl, hc, hmx, hb, hx⟩
  · have hr : r = -1 := by rw [← HR.out]; simp
    subst hr
    go_enter Tryz.func94, Tryz.ntmps94
    go_wp2
    go_loop [8] (fun i => i = .int .i64 0) (fun _ => 0)
    case atStart => rfl
    case round =>
      subst hrel
      go_wp2
      go_ret
      exact ⟨rfl, 0, rfl⟩
  · have HX := Lib.hid hx
    unfold maxLen at hmx
    clear hx
    go_enter Tryz.func94, Tryz.ntmps94
    go_wp2
    go_loopw [8] (fun i wr => ∃ k : Nat, k ≤ m ∧ i = .int .i64 k ∧ ∃ n, wr = w.drewN n) (fun i _ => ts.length - (intOf i).toNat)
    case atStart => exact ⟨0, Nat.zero_le _, rfl, 0, rfl⟩
    case round =>
      obtain ⟨k, hk, rfl, nd, rfl⟩ := hrel
      by_cases hkl : k < ts.length
      · have d1 := HX.out k hkl
        have k1 : (k : Int) < (ts.length : Int) := by omega
        by_cases hkm : k < m
        · have he := HLT.out k hkm hkl
          generalize ts.getD k ByteArray.empty = x at d1 he
          go_wp2
          go_roundw
          case rel => exact ⟨k + 1, by omega, by go_num, _, rfl⟩
          case measure => simp [intOf]; omega
        · obtain rfl : k = m := by omega
          have he := HAT.out hkl
          have hr : r = (k : Int) := by rw [← HR.out, if_pos hkl]
          subst hr
          generalize ts.getD k ByteArray.empty = x at d1 he
          go_wp2
          go_ret
          exact ⟨rfl, _, rfl⟩
      · have hr : r = -1 := by rw [← HR.out, if_neg (by omega)]
        subst hr
        obtain rfl : k = ts.length := by omega
        go_wp2
        go_ret
        exact ⟨rfl, _, rfl⟩

theorem hasIx_pos {ts : List ByteArray} {t : ByteArray} (h : 0 ≤ hasIx ts t) : addT ts t = ts := by unfold addT; rw [if_pos h]
theorem hasIx_neg {ts : List ByteArray} {t : ByteArray} (h : ¬ 0 ≤ hasIx ts t) : addT ts t = ts ++ [t] := by unfold addT; rw [if_neg h]

/-- a row of texts, grown -/
def GrownS (w0 : World) (ys : List ByteArray) (en : Ending) (w' : World) : Prop :=
  ∃ a n c, en = .returned (.slice a n c) ∧ w'.ownsRow w0.heap.size 9 1 (.slice a n c) n (ys.map Value.string) ∧ Below w0.heap.size w0 w'

set_option maxRecDepth 100000 in
set_option maxHeartbeats 1600000 in
theorem l6Add_any (w0 : World) (a : Option Addr) (n c : Nat) (ts : List ByteArray) (t : ByteArray) (W : World) (hn : n ≤ 100000) (hb : Below w0.heap.size w0 W)
    (h : W.ownsRow w0.heap.size 9 1 (.slice a n c) n (ts.map Value.string)) :
    Calls Tryz.prog 68 #[.slice a n c, .string t] W (GrownS w0 (addT ts t)) := by
  obtain ⟨i0, hi, hz0, hz1, hz2⟩ := info_parts strInfo
  unfold GrownS
  have K := Lib.hid (l6Has_any (.slice a n c) ts t W (RowS.of_owns h))
  have HO := Lib.hid h
  have HB := Lib.hid hb
  by_cases hx : 0 ≤ hasIx ts t
  · rw [hasIx_pos hx]
    have hx' : hasIx ts t ≥ 0 := hx
    generalize hasIx ts t = ix at K hx
    clear h hb hx'
    go_enter Tryz.func68, Tryz.ntmps68
    go_wp2_with fail
    refine K.out.mono ?_
    rintro e w1 ⟨rfl, nd, rfl⟩
    go_wp2
    go_ret
    exact ⟨a, n, c, rfl, HO.out, below_drewN HB.out _⟩
  · rw [hasIx_neg hx]
    generalize hasIx ts t = ix at K hx
    have HL := Lib.hid (ownsS_length h)
    clear h hb
    go_enter Tryz.func68, Tryz.ntmps68
    go_wp2_with fail
    refine K.out.mono ?_
    rintro e w1 ⟨rfl, nd, rfl⟩
    have HO1 : Hid ((W.drewN nd).ownsRow w0.heap.size 9 1 (.slice a n c) n (ts.map Value.string)) := Lib.hid HO.out
    go_wp2_with (at_builtin; refine wpList_append_own _ rfl _ _ 33 rfl w0.heap.size 9 i0 _ 1 16 Tryz.underlying33 hi hz0 hz1 hz2 rfl (by decide) _ n _ rfl (HO1.out.alloc _) ⟨W.heap.size, 0, none⟩ 1 1 [.string t] rfl rfl ?c1 ?c2 ?c3 ?c4 ?c5 ?_)
    case c1 => exact strCells1 (W.drewN nd) t
    case c2 => intro v hv; simp at hv; subst hv; rfl
    case c3 => unfold maxLen; omega
    case c4 => omega
    case c5 => have := HB.out.size; simp; omega
    intro v' w2 hown' hgrow _
    obtain ⟨a2, c2, rfl⟩ := owns_slice hown'
    have HO2 := Lib.hid hown'
    have HB2 := Lib.hid (below_appended (below_drewN HB.out nd) HO1.out hgrow)
    clear hown' hgrow
    go_wp2
    go_ret
    exact ⟨a2, n + 1, c2, rfl, by rw [List.map_append]; exact HO2.out, HB2.out⟩

/-- a row of bytes, grown -/
def GrownB (w0 : World) (ys : List Int) (en : Ending) (w' : World) : Prop :=
  ∃ a n c, en = .returned (.slice a n c) ∧ w'.ownsRow w0.heap.size 5 1 (.slice a n c) n (ys.map (Value.int .u8)) ∧ Below w0.heap.size w0 w'
theorem owns_some {w : World} {B : Nat} {e : TypeId} {k : IntKind} {a : Option Addr} {n c : Nat} {xs : List Int} (h : w.ownsRow B e 1 (.slice a n c) n (xs.map (Value.int k))) (hn : n ≠ 0) : ∃ g, a = some ⟨g, 0, none⟩ := by
  rcases h.2 with ⟨hv, h0⟩ | ⟨g, cap, cur, hv, _⟩
  · exact absurd h0 hn
  · simp only [Value.slice.injEq] at hv
    exact ⟨_, hv.1⟩
theorem owns_cells {w : World} {B : Nat} {e : TypeId} {k : IntKind} {g n c : Nat} {xs : List Int} (h : w.ownsRow B e 1 (.slice (some ⟨g, 0, none⟩) n c) n (xs.map (Value.int k))) : ∀ j u, (xs.map (Value.int k))[j]? = some u → w.cell? (Addr.add ⟨g, 0, none⟩ j) = some u := by
  intro j u hj
  have hl := owns_length h
  have hlt : j < n := by
    have := (List.getElem?_eq_some_iff.1 hj).1
    simpa [← hl] using this
  have := h.cellAt j (by omega)
  rw [hj] at this
  rw [Addr.add_lit]
  simpa using this
theorem ints_one (k : IntKind) (xs : List Int) : ∀ u ∈ xs.map (Value.int k), u.oneCell' = true := by
  intro u hu
  obtain ⟨x, _, rfl⟩ := List.mem_map.1 hu
  rfl

set_option maxRecDepth 100000 in
set_option maxHeartbeats 1600000 in
theorem l6Ref_any (w0 : World) (v : Value) (ts : List ByteArray) (t : ByteArray) (hR : RowS w0 v ts) (hx : 0 ≤ hasIx ts t) (hts : ts.length ≤ 100000) (a : Option Addr) (n c : Nat) (xs : List Int) (W : World) (hn : n ≤ 100000) (hb : Below w0.heap.size w0 W)
    (h : W.ownsRow w0.heap.size 5 1 (.slice a n c) n (xs.map (Value.int .u8))) :
    Calls Tryz.prog 80 #[.slice a n c, v, .string t] W (GrownB w0 (xs ++ vput (hasIx ts t).toNat)) := by
  obtain ⟨i0, hi, hz0, hz1, hz2⟩ := info_parts varInfo
  unfold GrownB
  have hbd := hasIx_bd ts t
  have K := Lib.hid (l6Has_any v ts t W (hR.below hb))
  have KP := Lib.hid (l2Put_any (hasIx ts t).toNat (by omega))
  have h9 := vput_len9 (hasIx ts t).toNat (by omega)
  rw [show (((hasIx ts t).toNat : Nat) : Int) = hasIx ts t by omega] at KP
  have hp : (vput (hasIx ts t).toNat).length ≠ 0 := by have := vput_pos (hasIx ts t).toNat; omega
  generalize vput (hasIx ts t).toNat = ys at KP h9 hp ⊢
  generalize hasIx ts t = ix at K KP hx
  have HO := Lib.hid h
  have HB := Lib.hid hb
  clear h hb hbd
  go_enter Tryz.func80, Tryz.ntmps80
  go_wp2_with fail
  refine K.out.mono ?_
  rintro e w1 ⟨rfl, nd, rfl⟩
  go_wp2_with fail
  refine (KP.out _).mono ?_
  rintro e w2 ⟨a2, n2, c2, rfl, ho2, hb2⟩
  have hl2 := owns_length ho2
  obtain ⟨g, rfl⟩ := owns_some ho2 (by omega)
  have hb2' : Below W.heap.size W w2 := ⟨hb2.os, hb2.tape, hb2.output, hb2.size, hb2.block⟩
  have HO1 := Lib.hid (owns_below HO.out hb2')
  have HO2 := Lib.hid ho2
  have HBW := Lib.hid (HB.out.trans (hb2'.mono HB.out.size))
  have hl2' : n2 ≤ 9 := by omega
  have HL2 := Lib.hid hl2
  clear ho2 hb2 hb2' hl2 hp
  go_wp2_with (at_builtin; refine wpList_append_own _ rfl _ _ 22 rfl w0.heap.size 5 i0 _ 1 1 Tryz.underlying22 hi hz0 hz1 hz2 rfl (by decide) _ n _ rfl HO1.out ⟨g, 0, none⟩ n2 c2 (ys.map (Value.int .u8)) rfl ?c0 ?c1 ?c2 ?c3 ?c4 ?c5 ?_)
  case c0 => simp [HL2.out]
  case c1 => exact owns_cells HO2.out
  case c2 => exact ints_one _ _
  case c3 => unfold maxLen; omega
  case c4 => omega
  case c5 => exact HBW.out.size
  intro v' w3 hown' hgrow _
  obtain ⟨a3, c3, rfl⟩ := owns_slice hown'
  have HO3 := Lib.hid hown'
  have HB3 := Lib.hid (HBW.out.grown hgrow HBW.out.size (fun k hk => (HO1.out.lt k hk).1))
  clear hown' hgrow
  go_wp2
  go_ret
  exact ⟨a3, n + n2, c3, rfl, by rw [List.map_append]; exact HO3.out, HB3.out⟩
end Go.Proofs.YtbfjhjkllaceaaaGreatDoor

/- The model's l6Strings. -/
namespace Go.Proofs.YtbfjhjkllaceaaaGreatDoor
open Go.ChangeShapes Go.WideShapes Go.ChangeAt Go.RowKit
set_option linter.unusedVariables false

/-- the strings that are met, each once -/
def strsAts (o : List ByteArray) (l : List At) : List ByteArray := l.foldl (fun o a => addT (addT o a.name) a.value) o
def strsIt (o : List ByteArray) (x : It) : List ByteArray := if x.name.toList.isEmpty then addT o x.text else strsAts (addT (addT o x.space) x.name) x.attrs
def strsOf (l : List It) : List ByteArray := l.foldl strsIt []
theorem strsAts_length (l : List At) : ∀ o, (strsAts o l).length ≤ o.length + 2 * l.length := by
  induction l with
  | nil => intro o; simp [strsAts]
  | cons a t ih =>
    intro o
    have h := ih (addT (addT o a.name) a.value)
    have h1 := addT_length (addT o a.name) a.value
    have h2 := addT_length o a.name
    unfold strsAts at h ⊢
    rw [List.foldl_cons, List.length_cons]
    omega
theorem strsIt_length (o : List ByteArray) (x : It) (h : x.attrs.length ≤ 5) : (strsIt o x).length ≤ o.length + 12 := by
  unfold strsIt
  split
  · have := addT_length o x.text; omega
  · have h1 := strsAts_length x.attrs (addT (addT o x.space) x.name)
    have h2 := addT_length (addT o x.space) x.name
    have h3 := addT_length o x.space
    omega
theorem strsOf_succ (l : List It) (k : Nat) (h : k < l.length) : strsOf (l.take (k + 1)) = strsIt (strsOf (l.take k)) (l.getD k dIt) := by
  unfold strsOf
  rw [List.take_succ_eq_append_getElem h, List.foldl_append, List.getD_eq_getElem?_getD, List.getElem?_eq_getElem h]
  rfl
theorem strsAts_succ (o : List ByteArray) (l : List At) (k : Nat) (h : k < l.length) : strsAts o (l.take (k + 1)) = addT (addT (strsAts o (l.take k)) (l.getD k dAt).name) (l.getD k dAt).value := by
  unfold strsAts
  rw [List.take_succ_eq_append_getElem h, List.foldl_append, List.getD_eq_getElem?_getD, List.getElem?_eq_getElem h]
  rfl
/-- not too many attributes -/
def FewAts (l : List It) : Prop := ∀ i, i < l.length → (l.getD i dIt).attrs.length ≤ 5

theorem from2 {w W : World} {p1 p2 : Addr} {v1 v2 : Value} (h1 : w.cell? p1 = some v1) (h2 : w.cell? p2 = some v2) (hb : Below w.heap.size w W) : Below w.heap.size w W ∧ W.cell? p1 = some v1 ∧ W.cell? p2 = some v2 :=
  ⟨hb, (hb.cell (World.block_lt_of_cell? w _ h1)).trans h1, (hb.cell (World.block_lt_of_cell? w _ h2)).trans h2⟩
theorem from3 {w W : World} {p1 p2 p3 : Addr} {v1 v2 v3 : Value} (h1 : w.cell? p1 = some v1) (h2 : w.cell? p2 = some v2) (h3 : w.cell? p3 = some v3) (hb : Below w.heap.size w W) : Below w.heap.size w W ∧ W.cell? p1 = some v1 ∧ W.cell? p2 = some v2 ∧ W.cell? p3 = some v3 :=
  ⟨hb, (hb.cell (World.block_lt_of_cell? w _ h1)).trans h1, (hb.cell (World.block_lt_of_cell? w _ h2)).trans h2, (hb.cell (World.block_lt_of_cell? w _ h3)).trans h3⟩
theorem strsIt_text {o : List ByteArray} {x : It} (h : x.name.toList.isEmpty = true) : strsIt o x = addT o x.text := by unfold strsIt; rw [if_pos h]
theorem strsIt_elem {o : List ByteArray} {x : It} (h : x.name.toList.isEmpty = false) : strsIt o x = strsAts (addT (addT o x.space) x.name) x.attrs := by unfold strsIt; rw [if_neg (by rw [h]; decide)]

set_option maxRecDepth 100000 in
set_option maxHeartbeats 3200000 in
theorem l6Strings_any (a : Option Addr) (n c : Nat) (l : List It) (w : World) (hl : l.length ≤ 40) (hf : FewAts l) (h : ItsAt w a n c l) :
    Calls Tryz.prog 39 #[.slice a n c] w (GrownS w (strsOf l)) := by
  unfold GrownS
  have hn := h.len
  have HI := Lib.hid h
  have HF := Lib.hid hf
  have hn40 : n ≤ 40 := by omega
  have KA := Lib.hid (fun (a : Option Addr) (n c : Nat) (ts : List ByteArray) (t : ByteArray) (W : World) (hn : n ≤ 100000) (hb : Below w.heap.size w W) (h : W.ownsRow w.heap.size 9 1 (.slice a n c) n (ts.map Value.string)) => l6Add_any w a n c ts t W hn hb h)
  unfold GrownS at KA
  have hlit := Lib.hid (World.ownsRow_lit (base := w.heap.size) (e := 9) (size := 1) w #[] 0 (Nat.le_refl _) (by decide) (by simp))
  have HN := Lib.hid hn
  clear hf h hl hn
  go_enter Tryz.func39, Tryz.ntmps39
  go_wp2
  go_loopw [3, 10] (fun v i wr => ∃ (k m : Nat) (x : Option Addr) (q : Nat) (o : List ByteArray), i = .int .i64 k ∧ k ≤ n ∧ v = .slice x m q ∧ m ≤ 12 * k ∧ Hid (o = strsOf (l.take k) ∧ o.length = m) ∧ wr.ownsRow w.heap.size 9 1 (.slice x m q) m (o.map Value.string) ∧ Below w.heap.size w wr) (fun _ i _ => n - (intOf i).toNat)
  case atStart => exact ⟨0, 0, _, _, [], rfl, Nat.zero_le _, rfl, Nat.le_refl _, Lib.hid ⟨rfl, rfl⟩, hlit.out, below1 w _⟩
  case round =>
    obtain ⟨k, m, x, q, o, rfl, hk, rfl, hm, HE, ho, hb⟩ := hrel
    have HO := Lib.hid ho
    have HB := Lib.hid hb
    clear ho hb
    by_cases hlt : k < n
    · obtain ⟨b, of, rfl, hc⟩ := HI.out.row.resolve_left (by omega)
      have hit := hc k hlt
      have hfew := HF.out k (by rw [HN.out]; exact hlt)
      have hsuc := strsOf_succ l k (by rw [HN.out]; exact hlt)
      rw [← HE.out.1] at hsuc
      have hle := strsIt_length o (l.getD k dIt) hfew
      generalize l.getD k dIt = y at hit hfew hsuc hle
      obtain ⟨a4, n4, c4, hc4, hat⟩ := hit.c4
      have w1 := hit.c1
      have w2 := hit.c2
      have w3 := hit.c3
      have d1 := (HB.out.cell (p := ⟨b, of + k * 5 + 1, none⟩) hit.lt).trans w1
      have d2 := (HB.out.cell (p := ⟨b, of + k * 5 + 2, none⟩) hit.lt).trans w2
      have d3 := (HB.out.cell (p := ⟨b, of + k * 5 + 3, none⟩) hit.lt).trans w3
      have d4 := (HB.out.cell (p := ⟨b, of + k * 5 + 4, none⟩) hit.lt).trans hc4
      have HSUC := Lib.hid hsuc
      have HLE := Lib.hid hle
      have HAT := Lib.hid hat
      have k1 : (k : Int) < (n : Int) := by omega
      clear hc hsuc hle hat hit
      cases he : y.name.toList.isEmpty
      · have HY := Lib.hid (strsIt_elem (o := o) he)
        obtain ⟨yd, yt, ys, yn, ya⟩ := y
        dsimp only at *
        go_wp2
        have hS0 : Below w.heap.size w wr.drew ∧ wr.drew.cell? ⟨b, of + k * 5 + 2, none⟩ = some (.string ys) ∧ wr.drew.cell? ⟨b, of + k * 5 + 3, none⟩ = some (.string yn) := from2 w2 w3 (below_drewN HB.out 1)
        have HOD := Lib.hid (ownsDrew HO.out)
        have hm5 : o.length ≤ m := Nat.le_of_eq HE.out.2
        have HM5 := Lib.hid hm5
        clear hm5
        go_region_held3 (fun W => Below w.heap.size w W ∧ W.cell? ⟨b, of + k * 5 + 2, none⟩ = some (.string ys) ∧ W.cell? ⟨b, of + k * 5 + 3, none⟩ = some (.string yn)) (first | assumption | exact from2 w2 w3 hbr)
          (first
            | (go_at_call 68; with_reducible refine (KA.out _ m _ o ys _ (by omega) (And.left (by assumption)) HOD.out).mono ?_; rintro e w' ⟨a5, n5, c5, rfl, ho5, hbr⟩; have hn5 : n5 ≤ m + 1 := by { have h1 := ownsS_length ho5; have h2 := addT_length o ys; have h3 := HM5.out; omega })
            | (go_at_call 68; with_reducible refine (KA.out _ _ _ (addT o ys) yn _ ?_ (And.left (by assumption)) (by assumption)).mono ?_; omega; rintro e w' ⟨a6, n6, c6, rfl, ho6, hbr⟩; have hn6 : n6 ≤ m + 2 := by { have h1 := ownsS_length ho6; have h2 := addT_length (addT o ys) yn; have h4 := addT_length o ys; have h3 := HM5.out; omega }))
        have d5 := (hbr.cell (p := ⟨b, of + k * 5 + 4, none⟩) (World.block_lt_of_cell? w _ hc4)).trans hc4
        have HO6 := Lib.hid ho6
        have HB6 := Lib.hid hbr
        have HLA := Lib.hid HAT.out.len
        have hn4 : n4 ≤ 5 := by have := HAT.out.len; omega
        clear ho5 ho6 hn5 d1 d2 d3 d4 hS0
        clear hbr
        go_wp2
        go_loopw [3, 43] (fun v i wy => ∃ (j m7 : Nat) (x7 : Option Addr) (q7 : Nat) (o7 : List ByteArray), i = .int .i64 j ∧ j ≤ n4 ∧ v = .slice x7 m7 q7 ∧ m7 ≤ m + 2 + 2 * j ∧ Hid (o7 = strsAts (addT (addT o ys) yn) (ya.take j) ∧ o7.length ≤ m7) ∧ wy.ownsRow w.heap.size 9 1 (.slice x7 m7 q7) m7 (o7.map Value.string) ∧ Below w.heap.size w wy) (fun _ i _ => n4 - (intOf i).toNat)
        case atStart => exact ⟨0, n6, _, _, addT (addT o ys) yn, rfl, Nat.zero_le _, rfl, by omega, Lib.hid ⟨rfl, Nat.le_of_eq (ownsS_length HO6.out).symm⟩, HO6.out, HB6.out⟩
        case round =>
          obtain ⟨j, m7, x7, q7, o7, rfl, hj, rfl, hm7, HE7, ho7, hb7⟩ := hrel
          have HO7 := Lib.hid (ownsDrew ho7)
          have HO7' := Lib.hid ho7
          have HB7 := Lib.hid hb7
          have g5 := (hb7.cell (p := ⟨b, of + k * 5 + 4, none⟩) (World.block_lt_of_cell? w _ hc4)).trans hc4
          clear ho7 hb7 d5
          by_cases hj4 : j < n4
          · obtain ⟨b7, of7, rfl, hb7, hc7⟩ := HAT.out.row.resolve_left (by omega)
            have s7 := strsAts_succ (addT (addT o ys) yn) ya j (by have := HLA.out; omega)
            rw [← HE7.out.1] at s7
            have w7 := (hc7 j hj4).1
            have w8 := (hc7 j hj4).2
            generalize ya.getD j dAt = z at s7 w7 w8
            obtain ⟨zn, zv⟩ := z
            dsimp only at s7 w7 w8
            have S7 := Lib.hid s7
            have hS7 : Below w.heap.size w wr.drew ∧ wr.drew.cell? ⟨b, of + k * 5 + 4, none⟩ = some (.slice (some ⟨b7, of7, none⟩) n4 c4) ∧ wr.drew.cell? ⟨b7, of7 + j * 2, none⟩ = some (.string zn) ∧ wr.drew.cell? ⟨b7, of7 + j * 2 + 1, none⟩ = some (.string zv) := from3 hc4 w7 w8 (below_drewN HB7.out 1)
            have k7 : (j : Int) < (n4 : Int) := by omega
            clear hc7 s7
            go_wp2
            go_region_held3 (fun W => Below w.heap.size w W ∧ W.cell? ⟨b, of + k * 5 + 4, none⟩ = some (.slice (some ⟨b7, of7, none⟩) n4 c4) ∧ W.cell? ⟨b7, of7 + j * 2, none⟩ = some (.string zn) ∧ W.cell? ⟨b7, of7 + j * 2 + 1, none⟩ = some (.string zv)) (first | assumption | exact from3 hc4 w7 w8 hbr)
              (first
                | (go_at_call 68; with_reducible refine (KA.out _ m7 _ o7 zn _ (by omega) (And.left (by assumption)) HO7.out).mono ?_; rintro e w' ⟨a8, n8, c8, rfl, ho8, hbr⟩; have hn8 : n8 ≤ m7 + 1 := by { have h1 := ownsS_length ho8; have h2 := addT_length o7 zn; have h3 := HE7.out.2; omega })
                | (go_at_call 68; with_reducible refine (KA.out _ _ _ (addT o7 zn) zv _ ?_ (And.left (by assumption)) (by assumption)).mono ?_; omega; rintro e w' ⟨a9, n9, c9, rfl, ho9, hbr⟩; have hn9 : n9 ≤ m7 + 2 := by { have h1 := ownsS_length ho9; have h2 := addT_length (addT o7 zn) zv; have h4 := addT_length o7 zn; have h3 := HE7.out.2; omega }))
            have HO9 := Lib.hid ho9
            have HB9 := Lib.hid hbr
            clear ho8 ho9 hn8 hS7
            clear hbr
            go_wp2
            go_roundw
            case rel => exact ⟨j + 1, n9, a9, c9, addT (addT o7 zn) zv, by go_num, by omega, rfl, by omega, Lib.hid ⟨S7.out.symm, Nat.le_of_eq (ownsS_length HO9.out).symm⟩, HO9.out, HB9.out⟩
            case measure => simp [intOf]; omega
          · obtain rfl : j = n4 := by omega
            have h7 := HE7.out.1
            rw [← HLA.out, List.take_length, ← HY.out] at h7
            have H7 := Lib.hid h7
            clear h7
            go_wp2
            go_roundw
            case rel => exact ⟨k + 1, m7, x7, q7, o7, by go_num, by omega, rfl, by have h1 := ownsS_length HO7'.out; have h2 := HLE.out; have h3 := HE.out.2; rw [← H7.out] at h2; omega, Lib.hid ⟨by rw [HSUC.out, ← H7.out], (ownsS_length HO7'.out).symm⟩, HO7'.out, HB7.out⟩
            case measure => simp [intOf]; omega
      · have HY := Lib.hid (strsIt_text (o := o) he)
        obtain ⟨yd, yt, ys, yn, ya⟩ := y
        dsimp only at *
        go_wp2_with fail
        refine (KA.out _ _ _ _ _ _ (by omega) HB.out HO.out).mono ?_
        rintro e w5 ⟨a5, n5, c5, rfl, ho5, hb5⟩
        have HL5 := Lib.hid (ownsS_length ho5)
        have HO5 := Lib.hid ho5
        have HB5 := Lib.hid hb5
        have hn5 : n5 ≤ 12 * (k + 1) := by have h1 := HL5.out; have h2 := HLE.out; have h3 := HE.out.2; rw [HY.out] at h2; omega
        clear ho5 hb5
        go_wp2
        go_roundw
        case rel => exact ⟨k + 1, n5, a5, c5, addT o yt, by go_num, by omega, rfl, hn5, Lib.hid ⟨by rw [HSUC.out, HY.out], HL5.out.symm⟩, HO5.out, HB5.out⟩
        case measure => simp [intOf]; omega
    · obtain rfl : k = n := by omega
      have h1 := HE.out.1
      rw [← HN.out, List.take_length] at h1
      have H1 := Lib.hid h1
      clear h1
      go_wp2
      go_ret
      exact ⟨x, m, q, rfl, by rw [← H1.out]; exact HO.out, HB.out⟩
end Go.Proofs.YtbfjhjkllaceaaaGreatDoor

/- The model's l6Item. -/
namespace Go.Proofs.YtbfjhjkllaceaaaGreatDoor
open Go.ChangeShapes Go.WideShapes Go.ChangeAt Go.RowKit
set_option linter.unusedVariables false

/-- the place of a text, in bytes -/
def refB (ts : List ByteArray) (t : ByteArray) : List Int := vput (hasIx ts t).toNat
def attB (ts : List ByteArray) (a : At) : List Int := refB ts a.name ++ refB ts a.value
/-- an item, in bytes -/
def itB (ts : List ByteArray) (x : It) : List Int :=
  vput x.depth.toNat ++ (if x.name.toList.isEmpty then 0 :: refB ts x.text else 1 :: (refB ts x.space ++ refB ts x.name ++ vput x.attrs.length ++ x.attrs.flatMap (attB ts)))
/-- its texts are among those -/
def HasIt (ts : List ByteArray) (x : It) : Prop :=
  if x.name.toList.isEmpty then 0 ≤ hasIx ts x.text else 0 ≤ hasIx ts x.space ∧ 0 ≤ hasIx ts x.name ∧ ∀ i, i < x.attrs.length → 0 ≤ hasIx ts (x.attrs.getD i dAt).name ∧ 0 ≤ hasIx ts (x.attrs.getD i dAt).value
theorem refB_length (ts : List ByteArray) (t : ByteArray) (h : ts.length ≤ 100000) : (refB ts t).length ≤ 9 := by
  unfold refB
  exact vput_len9 _ (by have := hasIx_bd ts t; omega)
theorem refB_pos (ts : List ByteArray) (t : ByteArray) : (refB ts t).length ≠ 0 := by
  unfold refB
  have := vput_pos (hasIx ts t).toNat
  omega
theorem attB_length (ts : List ByteArray) (a : At) (h : ts.length ≤ 100000) : (attB ts a).length ≤ 18 := by
  unfold attB
  have h1 := refB_length ts a.name h
  have h2 := refB_length ts a.value h
  simp
  omega
theorem attsB_length (ts : List ByteArray) (h : ts.length ≤ 100000) (l : List At) : (l.flatMap (attB ts)).length ≤ 18 * l.length := by
  induction l with
  | nil => simp
  | cons a t ih =>
    have := attB_length ts a h
    rw [List.flatMap_cons, List.length_append, List.length_cons]
    omega
theorem itB_length (ts : List ByteArray) (x : It) (h : ts.length ≤ 100000) (hd : x.depth ≤ 100000) (ha : x.attrs.length ≤ 5) : (itB ts x).length ≤ 200 := by
  have h0 := vput_len9 x.depth.toNat (by omega)
  have h1 := refB_length ts x.text h
  have h2 := refB_length ts x.space h
  have h3 := refB_length ts x.name h
  have h4 := vput_len9 x.attrs.length (by omega)
  have h5 := attsB_length ts h x.attrs
  unfold itB
  split <;> simp only [List.length_append, List.length_cons] <;> omega
theorem itB_text {ts : List ByteArray} {x : It} (h : x.name.toList.isEmpty = true) : itB ts x = vput x.depth.toNat ++ [0] ++ refB ts x.text := by unfold itB; rw [if_pos h]; simp
theorem itB_elem {ts : List ByteArray} {x : It} (h : x.name.toList.isEmpty = false) : itB ts x = vput x.depth.toNat ++ [1] ++ refB ts x.space ++ refB ts x.name ++ vput x.attrs.length ++ x.attrs.flatMap (attB ts) := by unfold itB; rw [if_neg (by rw [h]; decide)]; simp
theorem hasIt_text {ts : List ByteArray} {x : It} (h : x.name.toList.isEmpty = true) (hh : HasIt ts x) : 0 ≤ hasIx ts x.text := by unfold HasIt at hh; rwa [if_pos h] at hh
theorem hasIt_elem {ts : List ByteArray} {x : It} (h : x.name.toList.isEmpty = false) (hh : HasIt ts x) : 0 ≤ hasIx ts x.space ∧ 0 ≤ hasIx ts x.name ∧ ∀ i, i < x.attrs.length → 0 ≤ hasIx ts (x.attrs.getD i dAt).name ∧ 0 ≤ hasIx ts (x.attrs.getD i dAt).value := by unfold HasIt at hh; rwa [if_neg (by rw [h]; decide)] at hh
theorem atts_succ (ts : List ByteArray) (l : List At) (k : Nat) (h : k < l.length) : (l.take (k + 1)).flatMap (attB ts) = (l.take k).flatMap (attB ts) ++ refB ts (l.getD k dAt).name ++ refB ts (l.getD k dAt).value := by
  rw [List.take_succ_eq_append_getElem h, List.flatMap_append, List.getD_eq_getElem?_getD, List.getElem?_eq_getElem h]
  simp [attB]
theorem from1 {w W : World} {p1 : Addr} {v1 : Value} (h1 : w.cell? p1 = some v1) (hb : Below w.heap.size w W) : Below w.heap.size w W ∧ W.cell? p1 = some v1 :=
  ⟨hb, (hb.cell (World.block_lt_of_cell? w _ h1)).trans h1⟩
theorem below_up {w W W' : World} (h : Below w.heap.size w W) (h' : Below W.heap.size W W') : Below w.heap.size w W' := h.trans (h'.mono h.size)
theorem byteCell (W : World) (c : Int) (j : Nat) (u : Value) (hj : [Value.int .u8 c][j]? = some u) : ((W.alloc (.cells #[.int .u8 c] 5))).cell? (Addr.add ⟨W.heap.size, 0, none⟩ j) = some u := by
  match j, hj with
  | 0, hj => simp at hj; subst hj; simp [Addr.add]

theorem below_appended_at {w wr w1 : World} {o : Obj} {v : Value} {e : TypeId} {size n : Nat} {xs : List Value} (h : Below w.heap.size w wr) (ho : wr.ownsRow w.heap.size e size v n xs) (hg : (wr.alloc o).grownBy w1 v.ownBlock) : Below w.heap.size w w1 := below_appended h ho hg

set_option maxRecDepth 100000 in
set_option maxHeartbeats 6400000 in
theorem l6Item_any (w : World) (v : Value) (ts : List ByteArray) (hR : RowS w v ts) (hts : ts.length ≤ 100000) (b o : Nat) (x : It) (hx : ItAt w b o x) (hd : 0 ≤ x.depth ∧ x.depth ≤ 100000) (hfew : x.attrs.length ≤ 5) (hh : HasIt ts x)
    (a : Option Addr) (n c : Nat) (xs : List Int) (W : World) (hn : n ≤ 50000) (hb : Below w.heap.size w W) (h : W.ownsRow w.heap.size 5 1 (.slice a n c) n (xs.map (Value.int .u8))) :
    Calls Tryz.prog 55 #[.slice a n c, v, .pointer (some ⟨b, o, none⟩)] W (GrownB w (xs ++ itB ts x)) := by
  obtain ⟨i0, hi, hz0, hz1, hz2⟩ := info_parts varInfo
  have KR := Lib.hid (fun (t : ByteArray) (hx : 0 ≤ hasIx ts t) (a : Option Addr) (n c : Nat) (xs : List Int) (W : World) (hn : n ≤ 100000) (hb : Below w.heap.size w W) (h : W.ownsRow w.heap.size 5 1 (.slice a n c) n (xs.map (Value.int .u8))) => l6Ref_any w v ts t hR hx hts a n c xs W hn hb h)
  unfold GrownB at KR ⊢
  have KD := Lib.hid (l2Put_any x.depth.toNat (by omega))
  have hdd : ((x.depth.toNat : Nat) : Int) = x.depth := by omega
  rw [hdd] at KD
  unfold OwnsRes at KD
  have hlD := vput_len9 x.depth.toNat (by omega)
  have hpD := vput_pos x.depth.toNat
  have hlen := fun t => refB_length ts t hts
  have hR2 : ∀ t, vput (hasIx ts t).toNat = refB ts t := fun t => rfl
  simp only [hR2] at KR
  have HLEN := Lib.hid hlen
  have HO := Lib.hid h
  have HB := Lib.hid hb
  have HL := Lib.hid (owns_length h)
  have q0 := hx.c0
  have q1 := hx.c1
  have q2 := hx.c2
  have q3 := hx.c3
  obtain ⟨aa, na, ca, q4, hat⟩ := hx.c4
  have HAT := Lib.hid hat
  clear hR h hx hlen hR2 hat
  cases he : x.name.toList.isEmpty
  · obtain ⟨h1, h2, h3⟩ := hasIt_elem he hh
    rw [itB_elem he]
    have K1 := Lib.hid (KR.out x.space h1)
    have K2 := Lib.hid (KR.out x.name h2)
    have hl1 := HLEN.out x.space
    have hl2 := HLEN.out x.name
    have KA := Lib.hid (l2Put_any x.attrs.length (by omega))
    have hlA := vput_len9 x.attrs.length (by omega)
    have hpA := vput_pos x.attrs.length
    rw [HAT.out.len] at KA hlA hpA
    unfold OwnsRes at KA
    have H3 := Lib.hid h3
    obtain ⟨xd, xt, xs', xn, xa⟩ := x
    dsimp only at *
    rw [HAT.out.len]
    have HLA := Lib.hid HAT.out.len
    have hfew4 : na ≤ 5 := by have := HAT.out.len; omega
    have HATT := Lib.hid (atts_succ ts)
    generalize vput xd.toNat = D at KD hlD hpD ⊢
    generalize vput na = N at KA hlA hpA ⊢
    generalize hS : refB ts xs' = S at K1 hl1 ⊢
    generalize hT : refB ts xn = T at K2 hl2 ⊢
    clear hdd h1 h2 h3 hh hS hT
    have e0 := (hb.cell (p := ⟨b, o, none⟩) (World.block_lt_of_cell? w _ q0)).trans q0
    clear hb hfew
    go_enter Tryz.func55, Tryz.ntmps55
    go_wp2_with fail
    refine (KD.out _).mono ?_
    rintro e w1 ⟨a1', n1, c1, rfl, ho2, hb2⟩
    have hl1 := owns_length ho2
    obtain ⟨g1, rfl⟩ := owns_some ho2 (by omega)
    have HP1 := Lib.hid (owns_below HO.out hb2)
    have HQ1 := Lib.hid ho2
    have HW1 := Lib.hid (below_up HB.out hb2)
    have HL1 := Lib.hid hl1
    have hn1 : n1 ≤ 9 := by omega
    clear ho2 hb2 hl1
    go_wp2_with (at_builtin; refine wpList_append_own _ rfl _ _ 22 rfl w.heap.size 5 i0 _ 1 1 Tryz.underlying22 hi hz0 hz1 hz2 rfl (by decide) _ n _ rfl HP1.out ⟨g1, 0, none⟩ n1 c1 (List.map (Value.int .u8) D) rfl ?c0 ?c1 ?c2 ?c3 ?c4 ?c5 ?_)
    case c0 => simp [HL1.out]
    case c1 => exact owns_cells HQ1.out
    case c2 => exact ints_one _ _
    case c3 => unfold maxLen; omega
    case c4 => omega
    case c5 => exact HW1.out.size
    intro v' w2 hown' hgrow _
    obtain ⟨a2, c2, rfl⟩ := owns_slice hown'
    rw [← List.map_append] at hown'
    have HO2 := Lib.hid hown'
    have HB2 := Lib.hid (HW1.out.grown hgrow HW1.out.size (fun k hk => (HP1.out.lt k hk).1))
    clear hown' hgrow
    have e3 := (HB2.out.cell (p := ⟨b, o + 3, none⟩) (World.block_lt_of_cell? w _ q3)).trans q3
    go_wp2
    have HOD := Lib.hid (ownsDrew (HO2.out.alloc (.cells #[.int .u8 1] 5)))
    have hS0 : Below w.heap.size w w2.drew ∧ w2.drew.cell? ⟨b, o + 2, none⟩ = some (.string xs') := from1 q2 (below_drewN HB2.out 1)
    have hS1 : Below w.heap.size w (w2.alloc (.cells #[.int .u8 1] 5)).drew ∧ (w2.alloc (.cells #[.int .u8 1] 5)).drew.cell? ⟨b, o + 2, none⟩ = some (.string xs') := from1 q2 (below_drewN (HB2.out.alloc HB2.out.size _) 1)
    go_region_held3 (fun W => Below w.heap.size w W ∧ W.cell? ⟨b, o + 2, none⟩ = some (.string xs')) (first | assumption | exact from1 q2 hbr)
      (first
        | (refine step_own (by rfl) _ _ 22 rfl 5 i0 (.int .u8 0) 1 1 Tryz.underlying22 hi hz0 hz1 hz2 rfl (by decide) w.heap.size _ (n + n1) _ (by rfl) HOD.out ⟨w2.heap.size, 0, none⟩ 1 1 (List.map (Value.int .u8) [1]) (by rfl) rfl (byteCell w2 _) (ints_one _ _) (by unfold maxLen; omega) (by omega) (by have := HB2.out.size; simp; omega) ?_; intro v' w' hown' hgr; obtain ⟨a3, c3, rfl⟩ := owns_slice hown'; rw [← List.map_append] at hown'; have hbr := below_appended_at HB2.out HO2.out (grownDrew hgr))
        | (go_at_call 80; with_reducible refine (K1.out _ _ _ _ _ ?_ (And.left (by assumption)) (by assumption)).mono ?_; omega; rintro e w' ⟨a4, n4, c4, rfl, ho2, hbr⟩))
    have HL4 := Lib.hid (owns_length ho2)
    have hn4 : n4 ≤ n + 40 := by have h1 := HL4.out; have h2 := hl1; have h3 := HL.out; simp only [List.length_append, List.length_cons, List.length_nil] at h1; omega
    have HO4 := Lib.hid ho2
    have HB4 := Lib.hid hbr
    clear hS0 hS1 ho2
    clear hbr
    clear e0 e3
    have e3 := (HB4.out.cell (p := ⟨b, o + 3, none⟩) (World.block_lt_of_cell? w _ q3)).trans q3
    go_wp2_with fail
    refine (K2.out _ _ _ _ _ (by omega) HB4.out HO4.out).mono ?_
    rintro e w5 ⟨a5, n5, c5, rfl, ho2, hb2⟩
    have HL5 := Lib.hid (owns_length ho2)
    have hn5 : n5 ≤ n + 60 := by have h1 := HL5.out; have h2 := hl2; have h3 := HL.out; simp only [List.length_append, List.length_cons, List.length_nil] at h1; omega
    have HO5 := Lib.hid ho2
    have HB5 := Lib.hid hb2
    clear ho2 hb2
    have e4 := (HB5.out.cell (p := ⟨b, o + 4, none⟩) (World.block_lt_of_cell? w _ q4)).trans q4
    clear e3
    go_wp2_with fail
    refine (KA.out _).mono ?_
    rintro e w6 ⟨a6', n6, c6, rfl, ho2, hb2⟩
    have hl6 := owns_length ho2
    obtain ⟨g6, rfl⟩ := owns_some ho2 (by omega)
    have HP6 := Lib.hid (owns_below HO5.out hb2)
    have HQ6 := Lib.hid ho2
    have HW6 := Lib.hid (below_up HB5.out hb2)
    have HL6 := Lib.hid hl6
    have hn6 : n6 ≤ 9 := by omega
    clear ho2 hb2 hl6
    go_wp2_with (at_builtin; refine wpList_append_own _ rfl _ _ 22 rfl w.heap.size 5 i0 _ 1 1 Tryz.underlying22 hi hz0 hz1 hz2 rfl (by decide) _ n5 _ rfl HP6.out ⟨g6, 0, none⟩ n6 c6 (List.map (Value.int .u8) N) rfl ?c0 ?c1 ?c2 ?c3 ?c4 ?c5 ?_)
    case c0 => simp [HL6.out]
    case c1 => exact owns_cells HQ6.out
    case c2 => exact ints_one _ _
    case c3 => unfold maxLen; omega
    case c4 => omega
    case c5 => exact HW6.out.size
    intro v' w7 hown' hgrow _
    obtain ⟨a7, c7, rfl⟩ := owns_slice hown'
    rw [← List.map_append] at hown'
    have HO7 := Lib.hid hown'
    have HB7 := Lib.hid (HW6.out.grown hgrow HW6.out.size (fun k hk => (HP6.out.lt k hk).1))
    clear hown' hgrow
    have e5 := (HB7.out.cell (p := ⟨b, o + 4, none⟩) (World.block_lt_of_cell? w _ q4)).trans q4
    clear e4 e5
    have hn7 : n5 + n6 ≤ n + 80 := by omega
    obtain ⟨X, hX⟩ : ∃ X, xs ++ D ++ [1] ++ S ++ T ++ N = X := ⟨_, rfl⟩
    have HX7 : Hid (w7.ownsRow w.heap.size 5 1 (.slice a7 (n5 + n6) c7) (n5 + n6) (X.map (Value.int .u8))) := Lib.hid (by
      have := HO7.out
      rw [← hX]
      simpa [List.append_assoc] using this)
    have HX := Lib.hid hX
    have hA := HATT.out xa
    have HA := Lib.hid hA
    clear hX hA
    have e5 := (HB7.out.cell (p := ⟨b, o + 4, none⟩) (World.block_lt_of_cell? w _ q4)).trans q4
    go_wp2
    clear e5
    go_loopw [0, 58] (fun v i wr => ∃ (j m7 : Nat) (x7 : Option Addr) (q7 : Nat), i = .int .i64 j ∧ j ≤ na ∧ v = .slice x7 m7 q7 ∧ m7 ≤ n + 80 + 18 * j ∧ wr.ownsRow w.heap.size 5 1 (.slice x7 m7 q7) m7 ((X ++ (xa.take j).flatMap (attB ts)).map (Value.int .u8)) ∧ Below w.heap.size w wr) (fun _ i _ => na - (intOf i).toNat)
    case atStart => exact ⟨0, n5 + n6, _, _, rfl, Nat.zero_le _, rfl, by omega, by rw [List.take_zero, List.flatMap_nil, List.append_nil]; exact HX7.out, HB7.out⟩
    case round =>
      obtain ⟨j, m7, x7, q7, rfl, hj, rfl, hm7, ho7, hb7⟩ := hrel
      have HOj := Lib.hid ho7
      have HBj := Lib.hid hb7
      have HLj := Lib.hid (owns_length ho7)
      have g5 := (hb7.cell (p := ⟨b, o + 4, none⟩) (World.block_lt_of_cell? w _ q4)).trans q4
      clear ho7 hb7
      by_cases hj4 : j < na
      · obtain ⟨b7, of7, rfl, hb7, hc7⟩ := HAT.out.row.resolve_left (by omega)
        have s7 := HA.out j (by have := HLA.out; omega)
        have h7 := H3.out j (by have := HLA.out; omega)
        have w7 := (hc7 j hj4).1
        have w8 := (hc7 j hj4).2
        have KA1 := Lib.hid (KR.out _ h7.1)
        have KA2 := Lib.hid (KR.out _ h7.2)
        have la1 := HLEN.out (xa.getD j dAt).name
        have la2 := HLEN.out (xa.getD j dAt).value
        generalize refB ts (xa.getD j dAt).name = R1 at s7 KA1 la1
        generalize refB ts (xa.getD j dAt).value = R2 at s7 KA2 la2
        generalize xa.getD j dAt = z at w7 w8 KA1 KA2 h7
        obtain ⟨zn, zv⟩ := z
        dsimp only at w7 w8 KA1 KA2
        have S7 := Lib.hid s7
        have g7 := (HBj.out.cell (p := ⟨b7, of7 + j * 2, none⟩) hb7).trans w7
        have k7 : (j : Int) < (na : Int) := by omega
        clear hc7 s7 h7
        go_wp2_with fail
        refine (KA1.out _ _ _ _ _ (by omega) HBj.out HOj.out).mono ?_
        rintro e w8' ⟨a8, n8, c8, rfl, ho8, hb8⟩
        have HL8 := Lib.hid (owns_length ho8)
        have hn8 : n8 ≤ m7 + 9 := by have h1 := HL8.out; have h2 := HLj.out; rw [List.length_append, ← h2] at h1; omega
        have HO8 := Lib.hid ho8
        have HB8 := Lib.hid hb8
        have g6 := (hb8.cell (p := ⟨b, o + 4, none⟩) (World.block_lt_of_cell? w _ q4)).trans q4
        have g8 := (hb8.cell (p := ⟨b7, of7 + j * 2 + 1, none⟩) hb7).trans w8
        clear ho8 hb8 g5 g7
        go_wp2_with fail
        refine (KA2.out _ _ _ _ _ (by omega) HB8.out HO8.out).mono ?_
        rintro e w9' ⟨a9, n9, c9, rfl, ho9, hb9⟩
        have HL9 := Lib.hid (owns_length ho9)
        have hn9 : n9 ≤ m7 + 18 := by have h1 := HL9.out; have h2 := HL8.out; rw [List.length_append, ← h2] at h1; omega
        have HO9 := Lib.hid ho9
        have HB9 := Lib.hid hb9
        clear ho9 hb9 g6 g8
        go_wp2
        go_roundw
        case rel => exact ⟨j + 1, n9, a9, c9, by go_num, by omega, rfl, by omega, by rw [S7.out]; have := HO9.out; simpa only [List.append_assoc] using this, HB9.out⟩
        case measure => simp [intOf]; omega
      · obtain rfl : j = na := by omega
        have hO := HOj.out
        rw [← HLA.out, List.take_length] at hO
        have HOO := Lib.hid hO
        have hnl := HLA.out
        clear hO g5
        go_wp2
        go_ret
        refine ⟨x7, m7, q7, rfl, ?_, HBj.out⟩
        have := HOO.out
        rw [← HX.out] at this
        simpa [List.append_assoc] using this
  · have h1 := hasIt_text he hh
    rw [itB_text he]
    have K1 := Lib.hid (KR.out x.text h1)
    have hl1 := HLEN.out x.text
    obtain ⟨xd, xt, xs', xn, xa⟩ := x
    dsimp only at *
    generalize vput xd.toNat = D at KD hlD hpD ⊢
    generalize refB ts xt = T at K1 hl1 ⊢
    clear KR HLEN hdd h1 hh
    have e0 := (hb.cell (p := ⟨b, o, none⟩) (World.block_lt_of_cell? w _ q0)).trans q0
    clear hb
    go_enter Tryz.func55, Tryz.ntmps55
    go_wp2_with fail
    refine (KD.out _).mono ?_
    rintro e w1 ⟨a1', n1, c1, rfl, ho2, hb2⟩
    have hl1 := owns_length ho2
    obtain ⟨g1, rfl⟩ := owns_some ho2 (by omega)
    have HP1 := Lib.hid (owns_below HO.out hb2)
    have HQ1 := Lib.hid ho2
    have HW1 := Lib.hid (below_up HB.out hb2)
    have HL1 := Lib.hid hl1
    have hn1 : n1 ≤ 9 := by omega
    clear ho2 hb2 hl1
    go_wp2_with (at_builtin; refine wpList_append_own _ rfl _ _ 22 rfl w.heap.size 5 i0 _ 1 1 Tryz.underlying22 hi hz0 hz1 hz2 rfl (by decide) _ n _ rfl HP1.out ⟨g1, 0, none⟩ n1 c1 (List.map (Value.int .u8) D) rfl ?c0 ?c1 ?c2 ?c3 ?c4 ?c5 ?_)
    case c0 => simp [HL1.out]
    case c1 => exact owns_cells HQ1.out
    case c2 => exact ints_one _ _
    case c3 => unfold maxLen; omega
    case c4 => omega
    case c5 => exact HW1.out.size
    intro v' w2 hown' hgrow _
    obtain ⟨a2, c2, rfl⟩ := owns_slice hown'
    rw [← List.map_append] at hown'
    have HO2 := Lib.hid hown'
    have HB2 := Lib.hid (HW1.out.grown hgrow HW1.out.size (fun k hk => (HP1.out.lt k hk).1))
    clear hown' hgrow
    have e3 := (HB2.out.cell (p := ⟨b, o + 3, none⟩) (World.block_lt_of_cell? w _ q3)).trans q3
    have e1 := (HB2.out.cell (p := ⟨b, o + 1, none⟩) (World.block_lt_of_cell? w _ q1)).trans q1
    go_wp2
    have HOD := Lib.hid (ownsDrew (HO2.out.alloc (.cells #[.int .u8 0] 5)))
    have hS0 : Below w.heap.size w w2.drew ∧ w2.drew.cell? ⟨b, o + 1, none⟩ = some (.string xt) := from1 q1 (below_drewN HB2.out 1)
    have hS1 : Below w.heap.size w (w2.alloc (.cells #[.int .u8 0] 5)).drew ∧ (w2.alloc (.cells #[.int .u8 0] 5)).drew.cell? ⟨b, o + 1, none⟩ = some (.string xt) := from1 q1 (below_drewN (HB2.out.alloc HB2.out.size _) 1)
    go_region_held3 (fun W => Below w.heap.size w W ∧ W.cell? ⟨b, o + 1, none⟩ = some (.string xt)) (first | assumption | exact from1 q1 hbr)
      (first
        | (refine step_own (by rfl) _ _ 22 rfl 5 i0 (.int .u8 0) 1 1 Tryz.underlying22 hi hz0 hz1 hz2 rfl (by decide) w.heap.size _ (n + n1) _ (by rfl) HOD.out ⟨w2.heap.size, 0, none⟩ 1 1 (List.map (Value.int .u8) [0]) (by rfl) rfl (byteCell w2 _) (ints_one _ _) (by unfold maxLen; omega) (by omega) (by have := HB2.out.size; simp; omega) ?_; intro v' w' hown' hgr; obtain ⟨a3, c3, rfl⟩ := owns_slice hown'; rw [← List.map_append] at hown'; have hbr := below_appended_at HB2.out HO2.out (grownDrew hgr))
        | (go_at_call 80; with_reducible refine (K1.out _ _ _ _ _ ?_ (And.left (by assumption)) (by assumption)).mono ?_; omega; rintro e w' ⟨a4, n4, c4, rfl, ho2, hbr⟩))
    have HL4 := Lib.hid (owns_length ho2)
    have hn4 : n4 ≤ n + 40 := by have h1 := HL4.out; have h2 := hl1; have h3 := HL.out; simp only [List.length_append, List.length_cons, List.length_nil] at h1; omega
    have HO4 := Lib.hid ho2
    have HB4 := Lib.hid hbr
    clear hS0 hS1 ho2
    clear hbr
    go_wp2
    go_ret
    exact ⟨a4, n4, c4, rfl, by have := HO4.out; simpa [List.append_assoc] using this, HB4.out⟩
end Go.Proofs.YtbfjhjkllaceaaaGreatDoor

/- Contracts of the names' classes. -/
namespace Go.Proofs.YtbfjhjkllaceaaaGreatDoor
open Go.ChangeShapes Go.WideShapes Go.ChangeAt Go.RowKit
set_option linter.unusedVariables false

def letterB (c : Int) : Bool := decide (97 ≤ c ∧ c ≤ 122 ∨ 65 ≤ c ∧ c ≤ 90 ∨ c = 95)
def nameB (c : Int) : Bool := letterB c || decide (48 ≤ c ∧ c ≤ 57 ∨ c = 45 ∨ c = 46)

theorem l1Letter_any (c : Int) (w : World) :
    Calls Tryz.prog 102 #[.int .u8 c] w fun e w' => e = .returned (.bool (letterB c)) ∧ w' = w := by
  go_enter Tryz.func102, Tryz.ntmps102
  go_wp2
  all_goals
    go_ret
    exact ⟨ret_bool (by rw [Bool.eq_iff_iff]; simp [letterB] <;> omega), rfl⟩

theorem l1NameByte_any (c : Int) (w : World) :
    Calls Tryz.prog 103 #[.int .u8 c] w fun e w' => e = .returned (.bool (nameB c)) ∧ w' = w := by
  cases hq : letterB c
  all_goals
    go_enter Tryz.func103, Tryz.ntmps103
    go_wp2_with (go_at_call 102; refine (l1Letter_any _ _).mono ?_; rintro e w' ⟨rfl, rfl⟩)
    all_goals
      go_ret
      exact ⟨ret_bool (by rw [Bool.eq_iff_iff]; simp [nameB, hq] <;> omega), rfl⟩

theorem letterB_spans (p : Int) : (inB p 97 122 || (inB p 65 90 || inB p 95 95)) = letterB p := by
  rw [Bool.eq_iff_iff]
  simp [letterB, inB]
  omega

theorem isNameStart_any (c : Int) (h0 : 0 ≤ c) (h1 : c ≤ 255) (w : World) :
    Calls Tryz.prog 142 #[.int .u8 c] w fun e w' => e = .returned (.bool (letterB c)) ∧ Below w.heap.size w w' := by
  go_enter Tryz.func142, Tryz.ntmps142
  go_wp2_with fail
  refine (isIn_any c [(97, 122), (65, 90), (95, 95)] _ _ _ rfl (by decide) (by simp) ?_).mono ?_
  · intro i hi
    match i, hi with
    | 0, _ => simp
    | 1, _ => simp
    | 2, _ => simp
  rintro e w' ⟨rfl, hb⟩
  go_wp2
  go_ret
  exact ⟨ret_bool (letterB_spans c), ((Below.refl _ _).alloc (Nat.le_refl _) _).trans (hb.mono (by simp))⟩

theorem nameB_spans (p : Int) (h : letterB p = false) : (inB p 48 57 || (inB p 45 45 || inB p 46 46)) = nameB p := by
  rw [Bool.eq_iff_iff]
  simp [nameB, inB, h]
  omega

theorem isNamePart_any (c : Int) (h0 : 0 ≤ c) (h1 : c ≤ 255) (w : World) :
    Calls Tryz.prog 143 #[.int .u8 c] w fun e w' => e = .returned (.bool (nameB c)) ∧ Below w.heap.size w w' := by
  cases hq : letterB c
  · go_enter Tryz.func143, Tryz.ntmps143
    go_wp2_with fail
    refine (isNameStart_any c h0 h1 _).mono ?_
    rintro e w1 ⟨rfl, hb⟩
    go_wp2_with fail
    refine (isIn_any c [(48, 57), (45, 45), (46, 46)] _ _ _ rfl (by decide) (by simp) ?_).mono ?_
    · intro i hi
      match i, hi with
      | 0, _ => simp
      | 1, _ => simp
      | 2, _ => simp
    rintro e w2 ⟨rfl, hb2⟩
    go_wp2
    go_ret
    exact ⟨ret_bool (nameB_spans c hq), (hb.alloc hb.size _).trans (hb2.mono (by have := hb.size; simp; omega))⟩
  · go_enter Tryz.func143, Tryz.ntmps143
    go_wp2_with fail
    refine (isNameStart_any c h0 h1 _).mono ?_
    rintro e w1 ⟨rfl, hb⟩
    go_wp2
    go_ret
    exact ⟨ret_bool (by simp [nameB, hq]), hb⟩

/-- what a name is -/
def isNameL (l : List UInt8) : Bool := decide (1 ≤ l.length) && decide (l.length ≤ 20) && letterB ((l[0]?.getD 0).toNat : Int) && (l.all fun c => nameB (c.toNat : Int))
set_option maxHeartbeats 400000 in
theorem specIsName_any (s : ByteArray) (hs : s.size ≤ maxLen) (w : World) :
    Calls Tryz.prog 92 #[.string s] w fun e w' => e = .returned (.bool (isNameL s.data.toList)) ∧ w' = w := by
  unfold maxLen at hs
  have hlen : s.data.toList.length = s.size := by simp
  have HL := Lib.hid hlen
  clear hlen
  by_cases h1 : s.size < 1
  · go_enter Tryz.func92, Tryz.ntmps92
    go_wp2
    go_ret
    exact ⟨ret_bool (by unfold isNameL; rw [HL.out, decide_eq_false (by omega)]; rfl), rfl⟩
  · have h1' : 0 < s.size := by omega
    by_cases h2 : s.size ≤ 20
    · cases hl : letterB (s[0].toNat : Int)
      · have HLL := Lib.hid hl
        go_enter Tryz.func92, Tryz.ntmps92
        go_wp2_with fail
        refine (l1Letter_any _ _).mono ?_
        rintro e w' ⟨rfl, rfl⟩
        go_wp2
        go_ret
        exact ⟨ret_bool (by unfold isNameL; rw [head_byte s h1', HLL.out]; simp), rfl⟩
      · have HLL := Lib.hid hl
        go_enter Tryz.func92, Tryz.ntmps92
        go_wp2_with fail
        refine (l1Letter_any _ _).mono ?_
        rintro e w' ⟨rfl, rfl⟩
        go_wp2
        clear hl
        go_loop [3] (fun i => ∃ k : Nat, k ≤ s.size ∧ i = .int .i64 k ∧ (s.data.toList.take k).all (fun c => nameB (c.toNat : Int)) = true) (fun i => s.size - (intOf i).toNat)
        case atStart => exact ⟨0, Nat.zero_le _, rfl, by simp⟩
        case round =>
          obtain ⟨k, hk, rfl, hall⟩ := hrel
          have HA := Lib.hid hall
          clear hall
          by_cases hlt : k < s.size
          · cases hb : nameB (s[k].toNat : Int)
            · have HB := Lib.hid hb
              go_wp2_with (go_at_call 103; refine (l1NameByte_any _ _).mono ?_; rintro e w' ⟨rfl, rfl⟩)
              go_ret
              refine ⟨ret_bool ?_, rfl⟩
              have hn : (s.data.toList.all fun c => nameB (c.toNat : Int)) = false := by
                rw [Bool.eq_false_iff]
                intro hc
                have := List.all_eq_true.1 hc s[k] (List.getElem_mem (by simpa using hlt))
                rw [HB.out] at this
                cases this
              unfold isNameL
              rw [hn]; simp
            · have HB := Lib.hid hb
              go_wp2_with (go_at_call 103; refine (l1NameByte_any _ _).mono ?_; rintro e w' ⟨rfl, rfl⟩)
              go_round
              case rel => exact ⟨k + 1, by omega, by go_num, by rw [all_take_succ s k hlt, HA.out, HB.out]; rfl⟩
              case measure => simp [intOf]; omega
          · obtain rfl : k = s.size := by omega
            go_wp2
            go_ret
            refine ⟨ret_bool ?_, rfl⟩
            have hall := HA.out
            rw [take_size] at hall
            unfold isNameL
            rw [hall, head_byte s h1', HLL.out, HL.out]
            simp
            omega
    · go_enter Tryz.func92, Tryz.ntmps92
      go_wp2
      go_ret
      exact ⟨ret_bool (by unfold isNameL; rw [HL.out, decide_eq_false h2]; simp), rfl⟩

set_option maxHeartbeats 400000 in
theorem implIsName_any (s : ByteArray) (hs : s.size ≤ maxLen) (w : World) :
    Calls Tryz.prog 140 #[.string s] w fun e w' => e = .returned (.bool (isNameL s.data.toList)) ∧ Below w.heap.size w w' := by
  unfold maxLen at hs
  have hlen : s.data.toList.length = s.size := by simp
  have HL := Lib.hid hlen
  clear hlen
  by_cases h1 : s.size < 1
  · go_enter Tryz.func140, Tryz.ntmps140
    go_wp2
    go_ret
    exact ⟨ret_bool (by unfold isNameL; rw [HL.out, decide_eq_false (by omega)]; rfl), Below.refl _ _⟩
  · have h1' : 0 < s.size := by omega
    by_cases h2 : s.size ≤ 20
    · have q0 : (0 : Int) ≤ (s[0].toNat : Int) := by omega
      have q1 : (s[0].toNat : Int) ≤ 255 := by have := s[0].toNat_lt; omega
      cases hl : letterB (s[0].toNat : Int)
      · have HLL := Lib.hid hl
        go_enter Tryz.func140, Tryz.ntmps140
        go_wp2_with fail
        refine (isNameStart_any _ q0 q1 _).mono ?_
        rintro e w1 ⟨rfl, hb⟩
        go_wp2
        go_ret
        exact ⟨ret_bool (by unfold isNameL; rw [head_byte s h1', HLL.out]; simp), hb⟩
      · have HLL := Lib.hid hl
        go_enter Tryz.func140, Tryz.ntmps140
        go_wp2_with fail
        refine (isNameStart_any _ q0 q1 _).mono ?_
        rintro e w1 ⟨rfl, hb⟩
        go_wp2
        clear hl
        go_loopw [3] (fun i wr => ∃ k : Nat, 1 ≤ k ∧ k ≤ s.size ∧ i = .int .i64 k ∧ (s.data.toList.take k).all (fun c => nameB (c.toNat : Int)) = true ∧ Below w.heap.size w wr) (fun i _ => s.size - (intOf i).toNat)
        case atStart =>
          refine ⟨1, Nat.le_refl _, by omega, rfl, ?_, hb⟩
          rw [all_take_succ s 0 h1']
          simp [nameB, HLL.out]
        case round =>
          obtain ⟨k, hk1, hk, rfl, hall, hbl⟩ := hrel
          have HA := Lib.hid hall
          clear hall
          by_cases hlt : k < s.size
          · have r0 : (0 : Int) ≤ (s[k].toNat : Int) := by omega
            have r1 : (s[k].toNat : Int) ≤ 255 := by have := s[k].toNat_lt; omega
            cases hb2 : nameB (s[k].toNat : Int)
            · have HB := Lib.hid hb2
              go_wp2_with fail
              refine (isNamePart_any _ r0 r1 _).mono ?_
              rintro e w2 ⟨rfl, hb3⟩
              go_wp2
              go_ret
              refine ⟨ret_bool ?_, hbl.trans (hb3.mono hbl.size)⟩
              have hn : (s.data.toList.all fun c => nameB (c.toNat : Int)) = false := by
                rw [Bool.eq_false_iff]
                intro hc
                have := List.all_eq_true.1 hc s[k] (List.getElem_mem (by simpa using hlt))
                rw [HB.out] at this
                cases this
              unfold isNameL
              rw [hn]; simp
            · have HB := Lib.hid hb2
              go_wp2_with fail
              refine (isNamePart_any _ r0 r1 _).mono ?_
              rintro e w2 ⟨rfl, hb3⟩
              go_wp2
              go_roundw
              case rel => exact ⟨k + 1, by omega, by omega, by go_num, by rw [all_take_succ s k hlt, HA.out, HB.out]; rfl, hbl.trans (hb3.mono hbl.size)⟩
              case measure => simp [intOf]; omega
          · obtain rfl : k = s.size := by omega
            go_wp2
            go_ret
            refine ⟨ret_bool ?_, hbl⟩
            have hall := HA.out
            rw [take_size] at hall
            unfold isNameL
            rw [hall, head_byte s h1', HLL.out, HL.out]
            simp
            omega
    · go_enter Tryz.func140, Tryz.ntmps140
      go_wp2
      go_ret
      exact ⟨ret_bool (by unfold isNameL; rw [HL.out, decide_eq_false h2]; simp), Below.refl _ _⟩
end Go.Proofs.YtbfjhjkllaceaaaGreatDoor

/- IsKey on both sides. -/
namespace Go.Proofs.YtbfjhjkllaceaaaGreatDoor
open Go.ChangeShapes Go.WideShapes Go.ChangeAt Go.RowKit
set_option linter.unusedVariables false

/-- what a key is -/
def isKeyL (s : ByteArray) : Bool := (isNameL s.data.toList && !(s.toList == [120, 109, 108, 110, 115])) || (s.toList == [120, 109, 108, 58, 108, 97, 110, 103])

set_option maxHeartbeats 400000 in
theorem specIsKey_any (s : ByteArray) (hs : s.size ≤ maxLen) (w : World) :
    Calls Tryz.prog 104 #[.string s] w fun e w' => e = .returned (.bool (isKeyL s)) ∧ w' = w := by
  go_enter Tryz.func104, Tryz.ntmps104
  go_wp2_with fail
  refine (specIsName_any s hs _).mono ?_
  rintro e w' ⟨rfl, rfl⟩
  go_wp2
  all_goals
    go_ret
    exact ⟨ret_bool (by unfold isKeyL; simp_all), rfl⟩

theorem isKeyL_lang (s : ByteArray) (h : s.toList = [120, 109, 108, 58, 108, 97, 110, 103]) : isKeyL s = true := by simp [isKeyL, h]
theorem isKeyL_name (s : ByteArray) (h : ¬ s.toList = [120, 109, 108, 58, 108, 97, 110, 103]) (h2 : isNameL s.data.toList = false) : isKeyL s = false := by simp [isKeyL, h, h2]

set_option maxHeartbeats 800000 in
theorem implIsKey_any (s : ByteArray) (hs : s.size ≤ maxLen) (w : World) :
    Calls Tryz.prog 144 #[.string s] w fun e w' => e = .returned (.bool (isKeyL s)) ∧ Below w.heap.size w w' := by
  by_cases h : s.toList = [120, 109, 108, 58, 108, 97, 110, 103]
  · have HK := Lib.hid (isKeyL_lang s h)
    go_enter Tryz.func144, Tryz.ntmps144
    go_wp2
    go_ret
    exact ⟨ret_bool (by rw [HK.out]), Below.refl _ _⟩
  · have HH := Lib.hid h
    go_enter Tryz.func144, Tryz.ntmps144
    go_wp2_with (go_at_call 140; refine (implIsName_any s hs _).mono ?_; rintro e w1 ⟨rfl, hb⟩)
    all_goals
      go_ret
      exact ⟨ret_bool (by unfold isKeyL; simp_all <;> rw [Bool.or_comm]), hb⟩
end Go.Proofs.YtbfjhjkllaceaaaGreatDoor
