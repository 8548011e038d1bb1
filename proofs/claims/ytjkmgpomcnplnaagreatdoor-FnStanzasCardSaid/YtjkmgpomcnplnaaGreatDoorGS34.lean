/- The program's small readings: a word's place, and the methods that read one text. -/
import Derived.Test.YtjkmgpomcnplnaaGreatDoorGS33
import Derived.Test.YtjkmgpomcnplnaaGreatDoorGS13
import Derived.Test.YtjkmgpomcnplnaaGreatDoorGS32
import Derived.Test.YtjkmgpomcnplnaaGreatDoorGS29
import Derived.Test.YtjkmgpomcnplnaaGreatDoorGS15
import Derived.Test.YtjkmgpomcnplnaaGreatDoorGS1
namespace Go.Proofs.YtjkmgpomcnplnaaGreatDoor
open Go.ChangeShapes Go.WideShapes Go.ChangeAt Go.RowKit
set_option linter.unusedSimpArgs false
set_option linter.unusedVariables false
set_option maxHeartbeats 1600000 in
theorem implIndex_any (v : Value) (ts : List ByteArray) (t : ByteArray) (w : World) (h : RowS w v ts) :
    Calls Tryz.prog 124 #[v, .string t] w fun e w' => e = .returned (.int .i64 (hasIx ts t)) ∧ ∃ n, w' = w.drewN n := by
  have hle := List.findIdx_le_length (xs := ts) (p := fun x => x.toList == t.toList)
  have hat : ∀ h : ts.findIdx (fun x => x.toList == t.toList) < ts.length, ((ts.getD (ts.findIdx (fun x => x.toList == t.toList)) ByteArray.empty).toList == t.toList) = true := fun h => by
    have := List.findIdx_getElem (xs := ts) (p := fun x => x.toList == t.toList) (w := h)
    rw [List.getD_eq_getElem?_getD, List.getElem?_eq_getElem h]
    exact this
  have hlt : ∀ j, j < ts.findIdx (fun x => x.toList == t.toList) → j < ts.length → ((ts.getD j ByteArray.empty).toList == t.toList) = false := fun j hj hl => by
    have := List.not_of_lt_findIdx (xs := ts) (p := fun x => x.toList == t.toList) hj
    rw [List.getD_eq_getElem?_getD, List.getElem?_eq_getElem hl]
    simpa using this
  unfold hasIx
  generalize hm : ts.findIdx (fun x => x.toList == t.toList) = m at hle hat hlt ⊢
  generalize hr : (if m < ts.length then (m : Int) else -1) = r
  have HR := Lib.hid hr
  have HAT := Lib.hid hat
  have HLT := Lib.hid hlt
  clear hr hat hlt hm
  rcases h with ⟨rfl, rfl⟩ | ⟨b, o, cap, rfl, hc, hmx, hb, hx⟩
  · have hr : r = -1 := by rw [← HR.out]; simp
    subst hr
    go_enter Tryz.func124, Tryz.ntmps124
    go_wp2
    go_loop [8] (fun i => i = .int .i64 0) (fun _ => 0)
    case atStart => rfl
    case round =>
      subst hrel
      go_wp2
      go_ret
      exact ⟨rfl, 0, rfl⟩
  · have HX := Lib.hid hx
    unfold maxLen at hmx
    clear hx
    go_enter Tryz.func124, Tryz.ntmps124
    go_wp2
    go_loopw [8] (fun i wr => ∃ k : Nat, k ≤ m ∧ i = .int .i64 k ∧ ∃ n, wr = w.drewN n) (fun i _ => ts.length - (intOf i).toNat)
    case atStart => exact ⟨0, Nat.zero_le _, rfl, 0, rfl⟩
    case round =>
      obtain ⟨k, hk, rfl, nd, rfl⟩ := hrel
      by_cases hkl : k < ts.length
      · have d1 := HX.out k hkl
        have k1 : (k : Int) < (ts.length : Int) := by omega
        by_cases hkm : k < m
        · have he := HLT.out k hkm hkl
          generalize ts.getD k ByteArray.empty = x at d1 he
          have he2 : (t.toList == x.toList) = false := by rw [beq_eq_false_iff_ne] at he ⊢; exact he.symm
          go_wp2
          go_roundw
          case rel => exact ⟨k + 1, by omega, by go_num, _, rfl⟩
          case measure => simp [intOf]; omega
        · obtain rfl : k = m := by omega
          have he := HAT.out hkl
          have hr : r = (k : Int) := by rw [← HR.out, if_pos hkl]
          subst hr
          generalize ts.getD k ByteArray.empty = x at d1 he
          have he2 : (t.toList == x.toList) = true := by rw [beq_iff_eq] at he ⊢; exact he.symm
          go_wp2
          go_ret
          exact ⟨rfl, _, rfl⟩
      · have hr : r = -1 := by rw [← HR.out, if_neg (by omega)]
        subst hr
        obtain rfl : k = ts.length := by omega
        go_wp2
        go_ret
        exact ⟨rfl, _, rfl⟩
theorem placeOfWord_any (v : Value) (ts : List ByteArray) (t : ByteArray) (w : World) (h : RowS w v ts) :
    Calls Tryz.prog 103 #[v, .string t] w fun e w' => e = .returned (.tuple #[.int .i64 (hasIx ts t), .bool (decide (0 < hasIx ts t))]) ∧ ∃ n, w' = w.drewN n := by
  have K := Lib.hid (implIndex_any v ts t w h)
  generalize hasIx ts t = ix at K
  clear h
  go_enter Tryz.func103, Tryz.ntmps103
  go_wp2_with fail
  refine K.out.mono ?_
  rintro e w1 ⟨rfl, nd, rfl⟩
  go_wp2
  go_ret2
  exact ⟨rfl, nd, rfl⟩
theorem readFrom_any (pb : Nat) (p : Pr) (a : Option Addr) (n c : Nat) (t : ByteArray) (w0 w : World) (h : PrMut w0 w pb p a n c) :
    Calls Tryz.prog 68 #[.pointer (some ⟨pb, 0, none⟩), .string t] w (PartRes w0 w pb a n c (some { p with sender := t })) := by
  have z := h.is.c1
  have y := h.fz 1
  have H := Lib.hid h
  clear h
  go_enter Tryz.func68, Tryz.ntmps68
  go_wp2
  go_ret
  exact ⟨true, _, rfl, H.out.setSender t, Only.set (P := fun i => i = pb) _ ⟨pb, 1, none⟩ _ rfl, fun _ => rfl, by simp⟩
theorem readTo_any (pb : Nat) (p : Pr) (a : Option Addr) (n c : Nat) (t : ByteArray) (w0 w : World) (h : PrMut w0 w pb p a n c) :
    Calls Tryz.prog 69 #[.pointer (some ⟨pb, 0, none⟩), .string t] w (PartRes w0 w pb a n c (some { p with goal := t })) := by
  have z := h.is.c2
  have y := h.fz 2
  have H := Lib.hid h
  clear h
  go_enter Tryz.func69, Tryz.ntmps69
  go_wp2
  go_ret
  exact ⟨true, _, rfl, H.out.setGoal t, Only.set (P := fun i => i = pb) _ ⟨pb, 2, none⟩ _ rfl, fun _ => rfl, by simp⟩
theorem readStatus_any (pb : Nat) (p : Pr) (a : Option Addr) (n c : Nat) (t : ByteArray) (w0 w : World) (h : PrMut w0 w pb p a n c) :
    Calls Tryz.prog 73 #[.pointer (some ⟨pb, 0, none⟩), .string t] w (PartRes w0 w pb a n c (some { p with status := t })) := by
  have z := h.is.c4
  have y := h.fz 4
  have H := Lib.hid h
  clear h
  go_enter Tryz.func73, Tryz.ntmps73
  go_wp2
  go_ret
  exact ⟨true, _, rfl, H.out.setStatus t, Only.set (P := fun i => i = pb) _ ⟨pb, 4, none⟩ _ rfl, fun _ => rfl, by simp⟩
set_option maxHeartbeats 800000 in
theorem readType_any (pb : Nat) (p : Pr) (a : Option Addr) (n c : Nat) (t : ByteArray) (w0 w : World) (h : PrMut w0 w pb p a n c) :
    Calls Tryz.prog 70 #[.pointer (some ⟨pb, 0, none⟩), .string t] w (PartRes w0 w pb a n c (if hasIx kindWs t < 1 then none else some { p with kind := hasIx kindWs t })) := by
  have H := Lib.hid h
  clear h
  have KI := Lib.hid (fun v W (h : RowS W v kindWs) => placeOfWord_any v kindWs t W h)
  generalize hasIx kindWs t = ix at KI ⊢
  obtain ⟨r, hrr⟩ : ∃ r, (if ix < 1 then none else some { p with kind := ix }) = r := ⟨_, rfl⟩
  rw [hrr]
  have HRR := Lib.hid hrr
  clear hrr
  go_enter Tryz.func70, Tryz.ntmps70
  go_wp2_with fail
  refine (pKinds_row _).mono ?_
  rintro e w1 ⟨rfl, hr, hb⟩
  have HR := Lib.hid hr
  have HB := Lib.hid hb
  clear hr hb
  generalize (Value.slice (some ⟨w.heap.size, 0, none⟩) 7 7) = v at HR ⊢
  go_wp2_with fail
  refine (KI.out _ _ HR.out).mono ?_
  rintro e w2 ⟨rfl, nd, rfl⟩
  have hb2 := HB.out.trans ((below_drewN (Below.refl w1.heap.size w1) nd).mono HB.out.size)
  have hq := H.out.keep hb2
  have z := hq.is.c0
  have y := hq.fz 0
  have HQ := Lib.hid hq
  have HB2 := Lib.hid hb2
  clear hq hb2 HR HB H KI
  go_wp2
  go_ret
  refine ⟨decide (0 < ix), _, rfl, HQ.out.setKind ix, (Only.below HB2.out).trans (Only.set (P := fun i => i = pb) _ ⟨pb, 0, none⟩ _ rfl), fun e => ?_, fun e => ?_⟩
  · have h1 : 0 < ix := of_decide_eq_true e
    have h2 := HRR.out
    rw [if_neg (by omega)] at h2
    exact h2.symm
  · have h1 : ¬ 0 < ix := of_decide_eq_false e
    have h2 := HRR.out
    rw [if_pos (by omega)] at h2
    exact h2.symm
set_option maxHeartbeats 800000 in
theorem readShow_any (pb : Nat) (p : Pr) (a : Option Addr) (n c : Nat) (t : ByteArray) (w0 w : World) (h : PrMut w0 w pb p a n c) :
    Calls Tryz.prog 72 #[.pointer (some ⟨pb, 0, none⟩), .string t] w (PartRes w0 w pb a n c (if hasIx showWs t < 1 then none else some { p with shown := hasIx showWs t })) := by
  have H := Lib.hid h
  clear h
  have KI := Lib.hid (fun v W (h : RowS W v showWs) => placeOfWord_any v showWs t W h)
  generalize hasIx showWs t = ix at KI ⊢
  obtain ⟨r, hrr⟩ : ∃ r, (if ix < 1 then none else some { p with shown := ix }) = r := ⟨_, rfl⟩
  rw [hrr]
  have HRR := Lib.hid hrr
  clear hrr
  go_enter Tryz.func72, Tryz.ntmps72
  go_wp2_with fail
  refine (pShows_row _).mono ?_
  rintro e w1 ⟨rfl, hr, hb⟩
  have HR := Lib.hid hr
  have HB := Lib.hid hb
  clear hr hb
  generalize (Value.slice (some ⟨w.heap.size, 0, none⟩) 5 5) = v at HR ⊢
  go_wp2_with fail
  refine (KI.out _ _ HR.out).mono ?_
  rintro e w2 ⟨rfl, nd, rfl⟩
  have hb2 := HB.out.trans ((below_drewN (Below.refl w1.heap.size w1) nd).mono HB.out.size)
  have hq := H.out.keep hb2
  have z := hq.is.c3
  have y := hq.fz 3
  have HQ := Lib.hid hq
  have HB2 := Lib.hid hb2
  clear hq hb2 HR HB H KI
  go_wp2
  go_ret
  refine ⟨decide (0 < ix), _, rfl, HQ.out.setShown ix, (Only.below HB2.out).trans (Only.set (P := fun i => i = pb) _ ⟨pb, 3, none⟩ _ rfl), fun e => ?_, fun e => ?_⟩
  · have h1 : 0 < ix := of_decide_eq_true e
    have h2 := HRR.out
    rw [if_neg (by omega)] at h2
    exact h2.symm
  · have h1 : ¬ 0 < ix := of_decide_eq_false e
    have h2 := HRR.out
    rw [if_pos (by omega)] at h2
    exact h2.symm
open Classical in
noncomputable def rootG (t : ByteArray) : Nat :=
  if t = fromT then 68 else if t = toT then 69 else 70
theorem from_to : fromT ≠ toT := by decide
theorem from_type : fromT ≠ typeT := by decide
theorem to_type : toT ≠ typeT := by decide
theorem rootG_from : rootG fromT = 68 := by unfold rootG; rw [if_pos rfl]
theorem rootG_to : rootG toT = 69 := by unfold rootG; rw [if_neg from_to.symm, if_pos rfl]
theorem rootG_type : rootG typeT = 70 := by unfold rootG; rw [if_neg from_type.symm, if_neg to_type.symm]
theorem rootG_cases {t : ByteArray} (h : t ∈ rootTs) : t = fromT ∨ t = toT ∨ t = typeT := by
  unfold rootTs at h
  simpa using h
theorem rootG_enters {t : ByteArray} (h : t ∈ rootTs) (args : Array Value) (W : World) : (Sem.run Tryz.prog (callFunc (rootG t) args) W) = .ok (.enter (rootG t) args) W := by
  rcases rootG_cases h with rfl | rfl | rfl
  · rw [rootG_from]; kernel_rfl
  · rw [rootG_to]; kernel_rfl
  · rw [rootG_type]; kernel_rfl
theorem rootG_reads {x : At} (hx : x.name ∈ rootTs) (pb : Nat) (p : Pr) (a : Option Addr) (n c : Nat) (w0 w : World) (h : PrMut w0 w pb p a n c) :
    Calls Tryz.prog (rootG x.name) #[.pointer (some ⟨pb, 0, none⟩), .string x.value] w (PartRes w0 w pb a n c (rootOne x p)) := by
  unfold rootOne
  rcases rootG_cases hx with e | e | e
  · rw [e, rootG_from, if_pos rfl]
    exact readFrom_any pb p a n c x.value w0 w h
  · rw [e, rootG_to, if_neg (fun e => from_to (text_same e).symm), if_pos rfl]
    exact readTo_any pb p a n c x.value w0 w h
  · rw [e, rootG_type, if_neg (fun e => from_type (text_same e).symm), if_neg (fun e => to_type (text_same e).symm), if_pos rfl]
    exact readType_any pb p a n c x.value w0 w h
structure Box7 (w : World) (b : Nat) : Prop where
  c : ∀ i, i < 7 → ∃ v, w.cell? ⟨b, i, none⟩ = some v
  f : ∀ i, w.frozen? ⟨b, i, none⟩ = false
theorem Box7.below {w w' : World} {b : Nat} (h : Box7 w b) (hl : b < w.heap.size) (hb : Below w.heap.size w w') : Box7 w' b :=
  ⟨fun i hi => (h.c i hi).imp fun v hv => (hb.cell (p := ⟨b, i, none⟩) hl).trans hv, fun i => (hb.frozen (p := ⟨b, i, none⟩) hl).trans (h.f i)⟩
theorem text_le {l : List It} (h : treeCode l = 0) {i : Nat} (hi : i < l.length) : (l.getD i dIt).text.size ≤ 60 := by
  have hg := good_item h hi
  cases he : (l.getD i dIt).name.toList.isEmpty
  · rw [item_elem hg he]; decide
  · exact text_size hg he
theorem txtT_le {l : List It} (h : treeCode l = 0) {i : Nat} (hi : i < l.length) : (txtT (textL l i)).size ≤ 60 := by
  cases ht : textL l i with
  | none => decide
  | some t => exact textL_size h hi ht
def GrowOff (w : World) (B : Nat) (v : Value) (n : Nat) (l : List It) (E : Nat → Prop) : Prop :=
  ∃ (A : Nat → Option Addr) (N C : Nat → Nat), GrowIts w B v n l A N C ∧ (∀ g, v.ownBlock = some g → ¬ E g) ∧ ∀ i, i < l.length → ∀ x, A i = some x → N i ≠ 0 → ¬ E x.block
theorem GrowIts.only2 {P : Nat → Prop} {w w' : World} {B : Nat} {v : Value} {n : Nat} {l : List It} {A : Nat → Option Addr} {N C : Nat → Nat} (h : GrowIts w B v n l A N C) (ho : Only P w w')
    (h1 : ∀ g, v.ownBlock = some g → ¬ P g) (h2 : ∀ i, i < l.length → ∀ x, A i = some x → N i ≠ 0 → ¬ P x.block) : GrowIts w' B v n l A N C := by
  have hsz := ho.size
  refine ⟨?_, fun i hi => ⟨?_, (h.ats i hi).2⟩, h.apart, h.each⟩
  · refine ⟨h.row.1, ?_⟩
    rcases h.row.2 with e | ⟨g, cap, cur, hv, hg, hh, r⟩
    · exact .inl e
    · have hlt := (h.row.lt g (by rw [hv]; rfl)).2
      exact .inr ⟨g, cap, cur, hv, hg, by rw [ho.block g hlt (h1 g (by rw [hv]; rfl))]; exact hh, r⟩
  · have h3 := (h.ats i hi).1.only ho fun x hx hn => h2 i hi x hx hn
    exact ⟨h3.ats, h3.own.imp id fun ⟨b, g1, g2, g3, g4⟩ => ⟨b, g1, g2, by omega, g4⟩⟩
theorem GrowOff.only {P E : Nat → Prop} {w w' : World} {B : Nat} {v : Value} {n : Nat} {l : List It} (h : GrowOff w B v n l E) (ho : Only P w w') (hP : ∀ i, P i → E i) : GrowOff w' B v n l E := by
  obtain ⟨A, N, C, hg, h1, h2⟩ := h
  exact ⟨A, N, C, hg.only2 ho (fun g hg hp => h1 g hg (hP g hp)) (fun i hi x hx hn hp => h2 i hi x hx hn (hP _ hp)), h1, h2⟩
theorem GrowOff.below {E : Nat → Prop} {w w' : World} {B : Nat} {v : Value} {n : Nat} {l : List It} (h : GrowOff w B v n l E) (hb : Below w.heap.size w w') : GrowOff w' B v n l E :=
  h.only (P := fun _ => False) (Only.below hb) (fun i h => h.elim)
theorem GrowIts.lts {w : World} {B : Nat} {v : Value} {n : Nat} {l : List It} {A : Nat → Option Addr} {N C : Nat → Nat} (h : GrowIts w B v n l A N C) :
    (∀ g, v.ownBlock = some g → B ≤ g ∧ g < w.heap.size) ∧ ∀ i, i < l.length → ∀ x, A i = some x → N i ≠ 0 → B ≤ x.block ∧ x.block < w.heap.size :=
  ⟨fun g hg => h.row.lt g hg, fun i hi x hx hn => (h.ats i hi).1.in hx hn⟩
theorem GrowOff.ext {E E' : Nat → Prop} {w : World} {B : Nat} {v : Value} {n : Nat} {l : List It} (h : GrowOff w B v n l E) (hE : ∀ i, E' i → E i ∨ w.heap.size ≤ i ∨ i < B) : GrowOff w B v n l E' := by
  obtain ⟨A, N, C, hg, h1, h2⟩ := h
  obtain ⟨k1, k2⟩ := hg.lts
  refine ⟨A, N, C, hg, fun g hgb he => ?_, fun i hi x hx hn he => ?_⟩
  · have := k1 g hgb
    rcases hE g he with h | h | h
    · exact h1 g hgb h
    · omega
    · omega
  · have := k2 i hi x hx hn
    rcases hE _ he with h | h | h
    · exact h2 i hi x hx hn h
    · omega
    · omega
theorem GrowOff.of {E : Nat → Prop} {w : World} {B : Nat} {v : Value} {n : Nat} {l : List It} {A : Nat → Option Addr} {N C : Nat → Nat} (h : GrowIts w B v n l A N C) (hE : ∀ i, E i → w.heap.size ≤ i ∨ i < B) : GrowOff w B v n l E := by
  obtain ⟨k1, k2⟩ := h.lts
  exact ⟨A, N, C, h, fun g hg he => by have := k1 g hg; have := hE g he; omega, fun i hi x hx hn he => by have := k2 i hi x hx hn; have := hE _ he; omega⟩
theorem GrowOff.nil (w : World) (B : Nat) (E : Nat → Prop) : GrowOff w B (.slice none 0 0) 0 [] E :=
  ⟨fun _ => none, fun _ => 0, fun _ => 0, ⟨by have := World.ownsRow_nil w B 54 5; exact this, fun i hi => by simp at hi, fun i hi => by simp at hi, fun i j hi => by simp at hi⟩, fun g hg => by simp [Value.ownBlock] at hg, fun i hi => by simp at hi⟩
theorem GrowOff.len {E : Nat → Prop} {w : World} {B : Nat} {v : Value} {n : Nat} {l : List It} (h : GrowOff w B v n l E) : l.length = n := by
  obtain ⟨A, N, C, hg, _⟩ := h
  exact hg.len
theorem GrowOff.row {E : Nat → Prop} {w : World} {B : Nat} {v : Value} {n : Nat} {l : List It} (h : GrowOff w B v n l E) : ∃ xs, w.ownsRow B 54 5 v n xs ∧ ∀ g, v.ownBlock = some g → B ≤ g ∧ g < w.heap.size ∧ ¬ E g := by
  obtain ⟨A, N, C, hg, h1, _⟩ := h
  exact ⟨_, hg.row, fun g hgb => ⟨(hg.row.lt g hgb).1, (hg.row.lt g hgb).2, h1 g hgb⟩⟩
theorem GrowOff.join {E : Nat → Prop} {w w0 w1 : World} {B : Nat} {v v' : Value} {n k : Nat} {l l2 : List It} {A A2 : Nat → Option Addr} {N C N2 C2 : Nat → Nat}
    (hg0 : GrowIts w B v n l A N C) (h1 : ∀ g, v.ownBlock = some g → ¬ E g) (h2 : ∀ i, i < l.length → ∀ x, A i = some x → N i ≠ 0 → ¬ E x.block) (hEl : ∀ i, E i → i < w.heap.size)
    (hw : Below w.heap.size w w0) (hk : l2.length = k) (hA : ∀ i, i < k → OwnAts w0 w.heap.size w0.heap.size (A2 i) (N2 i) (C2 i) (l2.getD i dIt).attrs ∧ (A2 i = none → C2 i = 0))
    (hE : ∀ i j, i < k → j < k → i ≠ j → ∀ x y, A2 i = some x → A2 j = some y → N2 i ≠ 0 → N2 j ≠ 0 → x.block ≠ y.block) (hB : B ≤ w.heap.size)
    (hr : w1.ownsRow B 54 5 v' (n + k) (flatI l A N C ++ flatI l2 A2 N2 C2)) (hg : w0.grownBy w1 v.ownBlock) (hv : v'.ownBlock = v.ownBlock ∨ ∃ g, v'.ownBlock = some g ∧ w0.heap.size ≤ g) :
    GrowOff w1 B v' (n + k) (l ++ l2) E := by
  have hs0 := hw.size
  refine ⟨_, _, _, hg0.join hw hk hA hE hB hr hg hv, fun g hgb he => ?_, fun i hi x hx hn he => ?_⟩
  · have := hEl g he
    rcases hv with k1 | ⟨q, k1, hq⟩
    · exact h1 g (k1 ▸ hgb) he
    · rw [k1] at hgb
      simp only [Option.some.injEq] at hgb
      omega
  · have he2 := hEl _ he
    rw [List.length_append] at hi
    by_cases hil : i < l.length
    · unfold joinA at hx hn
      rw [if_pos hil] at hx hn
      exact h2 i hil x hx hn he
    · unfold joinA at hx hn
      rw [if_neg hil] at hx hn
      have := (hA (i - l.length) (by omega)).1.in hx hn
      omega
theorem GrowOff.base {E : Nat → Prop} {w : World} {B B' : Nat} {v : Value} {n : Nat} {l : List It} (h : GrowOff w B v n l E) (hle : B' ≤ B) : GrowOff w B' v n l E := by
  obtain ⟨A, N, C, hg, h1, h2⟩ := h
  exact ⟨A, N, C, ⟨owns_mono hg.row hle, fun i hi => ⟨⟨(hg.ats i hi).1.ats, (hg.ats i hi).1.own.imp id fun ⟨b, g1, g2, g3, g4⟩ => ⟨b, g1, by omega, g3, g4⟩⟩, (hg.ats i hi).2⟩, hg.apart, hg.each⟩, h1, h2⟩
theorem only7 (W : World) (b : Nat) (x0 x1 x2 x3 x4 x5 x6 : Value) : Only (fun i => i = b) W (((((((W.setCell ⟨b, 0, none⟩ x0).setCell ⟨b, 1, none⟩ x1).setCell ⟨b, 2, none⟩ x2).setCell ⟨b, 3, none⟩ x3).setCell ⟨b, 4, none⟩ x4).setCell ⟨b, 5, none⟩ x5).setCell ⟨b, 6, none⟩ x6) :=
  ((((((Only.set (P := fun i => i = b) W ⟨b, 0, none⟩ x0 rfl).trans (Only.set (P := fun i => i = b) _ ⟨b, 1, none⟩ x1 rfl)).trans (Only.set (P := fun i => i = b) _ ⟨b, 2, none⟩ x2 rfl)).trans (Only.set (P := fun i => i = b) _ ⟨b, 3, none⟩ x3 rfl)).trans (Only.set (P := fun i => i = b) _ ⟨b, 4, none⟩ x4 rfl)).trans (Only.set (P := fun i => i = b) _ ⟨b, 5, none⟩ x5 rfl)).trans (Only.set (P := fun i => i = b) _ ⟨b, 6, none⟩ x6 rfl)
theorem GrowOff.seven {E : Nat → Prop} {W : World} {B B' : Nat} {v : Value} {n : Nat} {l : List It} (h : GrowOff W B v n l E) (b : Nat) (hb : b < B) (hle : B' ≤ B) (x0 x1 x2 x3 x4 x5 x6 : Value) :
    GrowOff (((((((W.setCell ⟨b, 0, none⟩ x0).setCell ⟨b, 1, none⟩ x1).setCell ⟨b, 2, none⟩ x2).setCell ⟨b, 3, none⟩ x3).setCell ⟨b, 4, none⟩ x4).setCell ⟨b, 5, none⟩ x5).setCell ⟨b, 6, none⟩ x6) B' v n l (fun _ => False) :=
  (((h.ext (E' := fun i => i = b) (fun i hi => .inr (.inr (by omega)))).only (only7 W b x0 x1 x2 x3 x4 x5 x6) (fun i hi => hi)).ext (fun i hi => hi.elim)).base hle
end Go.Proofs.YtjkmgpomcnplnaaGreatDoor
