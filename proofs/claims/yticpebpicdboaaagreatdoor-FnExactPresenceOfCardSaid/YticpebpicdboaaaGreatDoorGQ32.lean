/- The program's meet: a reading is looked up, taken out of the map and done. -/
import Derived.Test.YticpebpicdboaaaGreatDoorGQ31
import Derived.Test.YticpebpicdboaaaGreatDoorGQ15
import Derived.Test.YticpebpicdboaaaGreatDoorGQ24
import Derived.Test.YticpebpicdboaaaGreatDoorGQ26
import Derived.Carry
namespace Go.Proofs.YticpebpicdboaaaGreatDoor
open Go.ChangeShapes Go.WideShapes Go.ChangeAt Go.RowKit
set_option linter.unusedVariables false

theorem mkeyLaw : Maps.Keyed Tryz.prog 9 := Maps.string_keyed Tryz.underlying9
theorem mkeyOf (t : ByteArray) (h : t.size ≤ maxLen) : keyOf Tryz.prog 9 (.string t) = some (mkey t) := WideMaps.keyOf_string_mk Tryz.underlying9 h
theorem zeroF (w : World) : (zeroValue 61).run Tryz.prog w = .ok .nilFunc w := by kernel_rfl
set_option maxRecDepth 100000 in
set_option maxHeartbeats 1600000 in
theorem meet_no (pb m n : Nat) (D : DataW Unit) (ts : List ByteArray) (g : ByteArray → Nat) (nm t : ByteArray) (w : World) (hs : nm.size ≤ maxLen) (hown : w.ownsMap Tryz.prog 9 (methElem pb) m n D) (hm : May D ts g) (h : nm ∉ ts) :
    Calls Tryz.prog 146 #[.map (some m), .string nm, .string t] w fun e w' => e = .returned (.bool false) ∧ w' = w := by
  have HOWN := Lib.hid hown
  have HKEY := Lib.hid (mkeyOf nm hs)
  have HH : Hid (Maps.has D (mkey nm) = false) := Lib.hid (by
    cases e : Maps.has D (mkey nm)
    · rfl
    · exact absurd ((hm.has nm).1 e) h)
  clear hown hm h hs
  go_enter Tryz.func146, Tryz.ntmps146
  go_wp2_with (at_lookup; refine wpList_lookup_own_ok _ rfl _ _ 158 rfl 9 61 mkeyLaw Tryz.underlying158 (methElem pb) (zeroF _) (.lit (.int .i64 (-1))) [] (methElem_nil pb) m n D rfl HOWN.out _ _ rfl HKEY.out ?_; intro v ps hv; rw [HH.out]; clear hv)
  go_ret
  exact ⟨rfl, rfl⟩
set_option maxRecDepth 100000 in
set_option maxHeartbeats 1600000 in
theorem meet_yes (pb m n : Nat) (D : DataW Unit) (ts : List ByteArray) (g : ByteArray → Nat) (nm t : ByteArray) (w : World) (hs : nm.size ≤ maxLen) (hown : w.ownsMap Tryz.prog 9 (methElem pb) m n D) (hm : May D ts g) (h : nm ∈ ts) (Q : Bool → World → Prop) (hF : ∀ args W, (Sem.run Tryz.prog (callFunc (g nm) args) W) = .ok (.enter (g nm) args) W)
    (hK : ∀ w', w'.ownsMap Tryz.prog 9 (methElem pb) m n (D.del (mkey nm)) → w.mapTurned w' m → Calls Tryz.prog (g nm) #[.pointer (some ⟨pb, 0, none⟩), .string t] w' fun e w2 => ∃ b, e = .returned (.bool b) ∧ Q b w2) :
    Calls Tryz.prog 146 #[.map (some m), .string nm, .string t] w fun e w2 => ∃ b, e = .returned (.bool b) ∧ Q b w2 := by
  have HOWN := Lib.hid hown
  have HKEY := Lib.hid (mkeyOf nm hs)
  have HK := Lib.hid hK
  have HF := Lib.hid hF
  have HH : Hid (Maps.has D (mkey nm) = true) := Lib.hid ((hm.has nm).2 h)
  have HA := Lib.hid (hm.at_ nm h (.lit (.int .i64 (-1))))
  clear hown hm h hs hK hF
  generalize g nm = f at HK HA HF
  go_enter Tryz.func146, Tryz.ntmps146
  go_wp2_with (first
    | (at_lookup; refine wpList_lookup_own_ok _ rfl _ _ 158 rfl 9 61 mkeyLaw Tryz.underlying158 (methElem pb) (zeroF _) (.lit (.int .i64 (-1))) [] (methElem_nil pb) m n D rfl HOWN.out _ _ rfl HKEY.out ?_; intro v ps hv; rw [HA.out] at hv; obtain rfl := methElem_inv hv; rw [HH.out]; clear hv; unfold methV)
    | (at_delete; refine wpList_delete_own _ rfl _ _ 158 9 rfl 61 mkeyLaw Tryz.underlying158 (methElem pb) m n D rfl HOWN.out _ _ rfl HKEY.out ?_; intro w1 hown1 hturn1; have HO1 := Lib.hid hown1; have HT1 := Lib.hid hturn1; clear hown1 hturn1))
  rw [HF.out, Oper.upon_enter]
  refine (HK.out _ HO1.out HT1.out).mono ?_
  rintro e w2 ⟨b, rfl, hq⟩
  have HQ := Lib.hid hq
  clear hq
  go_wp2
  go_ret
  exact ⟨b, rfl, HQ.out⟩
end Go.Proofs.YticpebpicdboaaaGreatDoor

/- A map's first entries, as a literal writes them. -/
namespace Go.Proofs.YticpebpicdboaaaGreatDoor
open Go.ChangeShapes Go.WideShapes Go.ChangeAt Go.RowKit
set_option linter.unusedVariables false

theorem wpList_insert_in {P : Program} (w : World) {ops : Array Oper} {rest : List Oper} {o : Oper} {a : Act} {Q : Exit → Act → World → Prop} (hg : o.guard = none) (m x v : Operand) (t : TypeId) (hop : o.op = Op.insert t m x v)
    (k e : TypeId) (K : Maps.Keyed P k) (ht : P.underlying t = some (.map k e)) (R : Value → Option (DataW Unit × List MemPlace)) (b n : Nat) (D : DataW Unit)
    (hm : a.eval m = .map (some b)) (hown : w.ownsMap P k R b n D) (hn : n < maxLen) (key val : Value) (kl : Lit) (hx : a.eval x = key) (hv : a.eval v = val) (hkey : keyOf P k key = some kl)
    (d : DataW Unit) (ps : List MemPlace) (hval : R val = some (d, ps))
    (hK : ∀ w', w'.ownsMap P k R b (n + 1) (D.put kl d) → w.mapTurned w' b → wpList P ops Q rest (a.put o.dst undef) w') :
    wpList P ops Q (o :: rest) a w := by
  refine wpList_plain hg fun K' hK' => ?_
  obtain ⟨w', hrun, r1, r2⟩ := hown.store K ht hn hkey hval
  unfold Oper.wp
  simp [execOp, hop, hm, hx, hv, hrun, Result.andThen]
  exact hK' _ _ (hK w' r1 r2)
/-- three readings, one behind the other -/
theorem May.three {g : ByteArray → Nat} {a b c : ByteArray} (h1 : a ≠ b) (h2 : a ≠ c) (h3 : b ≠ c) :
    May ((((DataW.map [] : DataW Unit).put (mkey a) (.lit (.int .i64 (g a : Int)))).put (mkey b) (.lit (.int .i64 (g b : Int)))).put (mkey c) (.lit (.int .i64 (g c : Int)))) [a, b, c] g := by
  have x1 := (May.empty g).add (t := a) (by simp)
  have x2 := x1.add (t := b) (by simp [h1.symm])
  have x3 := x2.add (t := c) (by simp [h2.symm, h3.symm])
  exact x3
end Go.Proofs.YticpebpicdboaaaGreatDoor

/- The program's words of kinds and of shows, in rows. -/
namespace Go.Proofs.YticpebpicdboaaaGreatDoor
open Go.ChangeShapes Go.WideShapes Go.ChangeAt Go.RowKit
set_option linter.unusedVariables false

theorem pKinds_any (w : World) : Calls Tryz.prog 84 #[] w fun e w' =>
    e = .returned (.slice (some ⟨w.heap.size, 0, none⟩) 7 7) ∧ w.heap.size < w'.heap.size ∧ Below w.heap.size w w' ∧ w'.cell? ⟨w.heap.size, 0, none⟩ = some (.string ⟨#[]⟩) ∧ w'.cell? ⟨w.heap.size, 1, none⟩ = some (.string ⟨#[117, 110, 97, 118, 97, 105, 108, 97, 98, 108, 101]⟩) ∧ w'.cell? ⟨w.heap.size, 2, none⟩ = some (.string ⟨#[115, 117, 98, 115, 99, 114, 105, 98, 101]⟩) ∧ w'.cell? ⟨w.heap.size, 3, none⟩ = some (.string ⟨#[115, 117, 98, 115, 99, 114, 105, 98, 101, 100]⟩) ∧ w'.cell? ⟨w.heap.size, 4, none⟩ = some (.string ⟨#[117, 110, 115, 117, 98, 115, 99, 114, 105, 98, 101]⟩) ∧ w'.cell? ⟨w.heap.size, 5, none⟩ = some (.string ⟨#[117, 110, 115, 117, 98, 115, 99, 114, 105, 98, 101, 100]⟩) ∧ w'.cell? ⟨w.heap.size, 6, none⟩ = some (.string ⟨#[112, 114, 111, 98, 101]⟩) := by
  go_enter Tryz.func84, Tryz.ntmps84
  go_wp2
  go_ret
  refine ⟨rfl, by simp, below1 _ _, ?_, ?_, ?_, ?_, ?_, ?_, ?_⟩ <;> simp
theorem pShows_any (w : World) : Calls Tryz.prog 87 #[] w fun e w' =>
    e = .returned (.slice (some ⟨w.heap.size, 0, none⟩) 5 5) ∧ w.heap.size < w'.heap.size ∧ Below w.heap.size w w' ∧ w'.cell? ⟨w.heap.size, 0, none⟩ = some (.string ⟨#[]⟩) ∧ w'.cell? ⟨w.heap.size, 1, none⟩ = some (.string ⟨#[97, 119, 97, 121]⟩) ∧ w'.cell? ⟨w.heap.size, 2, none⟩ = some (.string ⟨#[99, 104, 97, 116]⟩) ∧ w'.cell? ⟨w.heap.size, 3, none⟩ = some (.string ⟨#[100, 110, 100]⟩) ∧ w'.cell? ⟨w.heap.size, 4, none⟩ = some (.string ⟨#[120, 97]⟩) := by
  go_enter Tryz.func87, Tryz.ntmps87
  go_wp2
  go_ret
  refine ⟨rfl, by simp, below1 _ _, ?_, ?_, ?_, ?_, ?_⟩ <;> simp
theorem pKinds_row (w : World) : Calls Tryz.prog 84 #[] w fun e w' => e = .returned (.slice (some ⟨w.heap.size, 0, none⟩) 7 7) ∧ RowS w' (.slice (some ⟨w.heap.size, 0, none⟩) 7 7) kindWs ∧ Below w.heap.size w w' :=
  (pKinds_any w).mono fun e w' ⟨he, hz, hb, c0, c1, c2, c3, c4, c5, c6⟩ => ⟨he, kinds_row hz c0 c1 c2 c3 c4 c5 c6, hb⟩
theorem pShows_row (w : World) : Calls Tryz.prog 87 #[] w fun e w' => e = .returned (.slice (some ⟨w.heap.size, 0, none⟩) 5 5) ∧ RowS w' (.slice (some ⟨w.heap.size, 0, none⟩) 5 5) showWs ∧ Below w.heap.size w w' :=
  (pShows_any w).mono fun e w' ⟨he, hz, hb, c0, c1, c2, c3, c4⟩ => ⟨he, shows_row hz c0 c1 c2 c3 c4, hb⟩
end Go.Proofs.YticpebpicdboaaaGreatDoor

/- The program's small readings: a word's place, and the methods that read one text. -/
namespace Go.Proofs.YticpebpicdboaaaGreatDoor
open Go.ChangeShapes Go.WideShapes Go.ChangeAt Go.RowKit
set_option linter.unusedVariables false

set_option maxHeartbeats 1600000 in
theorem implIndex_any (v : Value) (ts : List ByteArray) (t : ByteArray) (w : World) (h : RowS w v ts) :
    Calls Tryz.prog 175 #[v, .string t] w fun e w' => e = .returned (.int .i64 (hasIx ts t)) ∧ ∃ n, w' = w.drewN n := by
  have hle := List.findIdx_le_length (xs := ts) (p := fun x => x.toList == t.toList)
  have hat : ∀ h : ts.findIdx (fun x => x.toList == t.toList) < ts.length, ((ts.getD (ts.findIdx (fun x => x.toList == t.toList)) ByteArray.empty).toList == t.toList) = true := fun h => by
    have := List.findIdx_getElem (xs := ts) (p := fun x => x.toList == t.toList) (w := h)
    rw [List.getD_eq_getElem?_getD, List.getElem?_eq_getElem h]
    exact this
  have hlt : ∀ j, j < ts.findIdx (fun x => x.toList == t.toList) → j < ts.length → ((ts.getD j ByteArray.empty).toList == t.toList) = false := fun j hj hl => by
    have := List.not_of_lt_findIdx (xs := ts) (p := fun x => x.toList == t.toList) hj
    rw [List.getD_eq_getElem?_getD, List.getElem?_eq_getElem hl]
    simpa using this
  unfold hasIx
  generalize hm : ts.findIdx (fun x => x.toList == t.toList) = m at hle hat hlt ⊢
  generalize hr : (if m < ts.length then (m : Int) else -1) = r
  have HR := Lib.hid hr
  have HAT := Lib.hid hat
  have HLT := Lib.hid hlt
  clear hr hat hlt hm
  rcases h with ⟨rfl, rfl⟩ | ⟨b, o, cap, rfl, hc, hmx, hb, hx⟩
  · have hr : r = -1 := by rw [← HR.out]; simp
    subst hr
    go_enter Tryz.func175, Tryz.ntmps175
    go_wp2
    go_loop [8] (fun i => i = .int .i64 0) (fun _ => 0)
    case atStart => rfl
    case round =>
      subst hrel
      go_wp2
      go_ret
      exact ⟨rfl, 0, rfl⟩
  · have HX := Lib.hid hx
    unfold maxLen at hmx
    clear hx
    go_enter Tryz.func175, Tryz.ntmps175
    go_wp2
    go_loopw [8] (fun i wr => ∃ k : Nat, k ≤ m ∧ i = .int .i64 k ∧ ∃ n, wr = w.drewN n) (fun i _ => ts.length - (intOf i).toNat)
    case atStart => exact ⟨0, Nat.zero_le _, rfl, 0, rfl⟩
    case round =>
      obtain ⟨k, hk, rfl, nd, rfl⟩ := hrel
      by_cases hkl : k < ts.length
      · have d1 := HX.out k hkl
        have k1 : (k : Int) < (ts.length : Int) := by omega
        by_cases hkm : k < m
        · have he := HLT.out k hkm hkl
          generalize ts.getD k ByteArray.empty = x at d1 he
          have he2 : (t.toList == x.toList) = false := by rw [beq_eq_false_iff_ne] at he ⊢; exact he.symm
          go_wp2
          go_roundw
          case rel => exact ⟨k + 1, by omega, by go_num, _, rfl⟩
          case measure => simp [intOf]; omega
        · obtain rfl : k = m := by omega
          have he := HAT.out hkl
          have hr : r = (k : Int) := by rw [← HR.out, if_pos hkl]
          subst hr
          generalize ts.getD k ByteArray.empty = x at d1 he
          have he2 : (t.toList == x.toList) = true := by rw [beq_iff_eq] at he ⊢; exact he.symm
          go_wp2
          go_ret
          exact ⟨rfl, _, rfl⟩
      · have hr : r = -1 := by rw [← HR.out, if_neg (by omega)]
        subst hr
        obtain rfl : k = ts.length := by omega
        go_wp2
        go_ret
        exact ⟨rfl, _, rfl⟩

theorem placeOfWord_any (v : Value) (ts : List ByteArray) (t : ByteArray) (w : World) (h : RowS w v ts) :
    Calls Tryz.prog 228 #[v, .string t] w fun e w' => e = .returned (.tuple #[.int .i64 (hasIx ts t), .bool (decide (0 < hasIx ts t))]) ∧ ∃ n, w' = w.drewN n := by
  have K := Lib.hid (implIndex_any v ts t w h)
  generalize hasIx ts t = ix at K
  clear h
  go_enter Tryz.func228, Tryz.ntmps228
  go_wp2_with fail
  refine K.out.mono ?_
  rintro e w1 ⟨rfl, nd, rfl⟩
  go_wp2
  go_ret2
  exact ⟨rfl, nd, rfl⟩

theorem readFrom_any (pb : Nat) (p : Pr) (a : Option Addr) (n c : Nat) (t : ByteArray) (w0 w : World) (h : PrMut w0 w pb p a n c) :
    Calls Tryz.prog 143 #[.pointer (some ⟨pb, 0, none⟩), .string t] w (PartRes w0 w pb a n c (some { p with sender := t })) := by
  have z := h.is.c1
  have y := h.fz 1
  have H := Lib.hid h
  clear h
  go_enter Tryz.func143, Tryz.ntmps143
  go_wp2
  go_ret
  exact ⟨true, _, rfl, H.out.setSender t, Only.set (P := fun i => i = pb) _ ⟨pb, 1, none⟩ _ rfl, fun _ => rfl, by simp⟩
theorem readTo_any (pb : Nat) (p : Pr) (a : Option Addr) (n c : Nat) (t : ByteArray) (w0 w : World) (h : PrMut w0 w pb p a n c) :
    Calls Tryz.prog 144 #[.pointer (some ⟨pb, 0, none⟩), .string t] w (PartRes w0 w pb a n c (some { p with goal := t })) := by
  have z := h.is.c2
  have y := h.fz 2
  have H := Lib.hid h
  clear h
  go_enter Tryz.func144, Tryz.ntmps144
  go_wp2
  go_ret
  exact ⟨true, _, rfl, H.out.setGoal t, Only.set (P := fun i => i = pb) _ ⟨pb, 2, none⟩ _ rfl, fun _ => rfl, by simp⟩
theorem readStatus_any (pb : Nat) (p : Pr) (a : Option Addr) (n c : Nat) (t : ByteArray) (w0 w : World) (h : PrMut w0 w pb p a n c) :
    Calls Tryz.prog 148 #[.pointer (some ⟨pb, 0, none⟩), .string t] w (PartRes w0 w pb a n c (some { p with status := t })) := by
  have z := h.is.c4
  have y := h.fz 4
  have H := Lib.hid h
  clear h
  go_enter Tryz.func148, Tryz.ntmps148
  go_wp2
  go_ret
  exact ⟨true, _, rfl, H.out.setStatus t, Only.set (P := fun i => i = pb) _ ⟨pb, 4, none⟩ _ rfl, fun _ => rfl, by simp⟩
set_option maxHeartbeats 800000 in
theorem readType_any (pb : Nat) (p : Pr) (a : Option Addr) (n c : Nat) (t : ByteArray) (w0 w : World) (h : PrMut w0 w pb p a n c) :
    Calls Tryz.prog 145 #[.pointer (some ⟨pb, 0, none⟩), .string t] w (PartRes w0 w pb a n c (if hasIx kindWs t < 1 then none else some { p with kind := hasIx kindWs t })) := by
  have H := Lib.hid h
  clear h
  have KI := Lib.hid (fun v W (h : RowS W v kindWs) => placeOfWord_any v kindWs t W h)
  generalize hasIx kindWs t = ix at KI ⊢
  obtain ⟨r, hrr⟩ : ∃ r, (if ix < 1 then none else some { p with kind := ix }) = r := ⟨_, rfl⟩
  rw [hrr]
  have HRR := Lib.hid hrr
  clear hrr
  go_enter Tryz.func145, Tryz.ntmps145
  go_wp2_with fail
  refine (pKinds_row _).mono ?_
  rintro e w1 ⟨rfl, hr, hb⟩
  have HR := Lib.hid hr
  have HB := Lib.hid hb
  clear hr hb
  generalize (Value.slice (some ⟨w.heap.size, 0, none⟩) 7 7) = v at HR ⊢
  go_wp2_with fail
  refine (KI.out _ _ HR.out).mono ?_
  rintro e w2 ⟨rfl, nd, rfl⟩
  have hb2 := HB.out.trans ((below_drewN (Below.refl w1.heap.size w1) nd).mono HB.out.size)
  have hq := H.out.keep hb2
  have z := hq.is.c0
  have y := hq.fz 0
  have HQ := Lib.hid hq
  have HB2 := Lib.hid hb2
  clear hq hb2 HR HB H KI
  go_wp2
  go_ret
  refine ⟨decide (0 < ix), _, rfl, HQ.out.setKind ix, (Only.below HB2.out).trans (Only.set (P := fun i => i = pb) _ ⟨pb, 0, none⟩ _ rfl), fun e => ?_, fun e => ?_⟩
  · have h1 : 0 < ix := of_decide_eq_true e
    have h2 := HRR.out
    rw [if_neg (by omega)] at h2
    exact h2.symm
  · have h1 : ¬ 0 < ix := of_decide_eq_false e
    have h2 := HRR.out
    rw [if_pos (by omega)] at h2
    exact h2.symm
set_option maxHeartbeats 800000 in
theorem readShow_any (pb : Nat) (p : Pr) (a : Option Addr) (n c : Nat) (t : ByteArray) (w0 w : World) (h : PrMut w0 w pb p a n c) :
    Calls Tryz.prog 147 #[.pointer (some ⟨pb, 0, none⟩), .string t] w (PartRes w0 w pb a n c (if hasIx showWs t < 1 then none else some { p with shown := hasIx showWs t })) := by
  have H := Lib.hid h
  clear h
  have KI := Lib.hid (fun v W (h : RowS W v showWs) => placeOfWord_any v showWs t W h)
  generalize hasIx showWs t = ix at KI ⊢
  obtain ⟨r, hrr⟩ : ∃ r, (if ix < 1 then none else some { p with shown := ix }) = r := ⟨_, rfl⟩
  rw [hrr]
  have HRR := Lib.hid hrr
  clear hrr
  go_enter Tryz.func147, Tryz.ntmps147
  go_wp2_with fail
  refine (pShows_row _).mono ?_
  rintro e w1 ⟨rfl, hr, hb⟩
  have HR := Lib.hid hr
  have HB := Lib.hid hb
  clear hr hb
  generalize (Value.slice (some ⟨w.heap.size, 0, none⟩) 5 5) = v at HR ⊢
  go_wp2_with fail
  refine (KI.out _ _ HR.out).mono ?_
  rintro e w2 ⟨rfl, nd, rfl⟩
  have hb2 := HB.out.trans ((below_drewN (Below.refl w1.heap.size w1) nd).mono HB.out.size)
  have hq := H.out.keep hb2
  have z := hq.is.c3
  have y := hq.fz 3
  have HQ := Lib.hid hq
  have HB2 := Lib.hid hb2
  clear hq hb2 HR HB H KI
  go_wp2
  go_ret
  refine ⟨decide (0 < ix), _, rfl, HQ.out.setShown ix, (Only.below HB2.out).trans (Only.set (P := fun i => i = pb) _ ⟨pb, 3, none⟩ _ rfl), fun e => ?_, fun e => ?_⟩
  · have h1 : 0 < ix := of_decide_eq_true e
    have h2 := HRR.out
    rw [if_neg (by omega)] at h2
    exact h2.symm
  · have h1 : ¬ 0 < ix := of_decide_eq_false e
    have h2 := HRR.out
    rw [if_pos (by omega)] at h2
    exact h2.symm
end Go.Proofs.YticpebpicdboaaaGreatDoor

/- The root's three readings, by their names. -/
namespace Go.Proofs.YticpebpicdboaaaGreatDoor
open Go.ChangeShapes Go.WideShapes Go.ChangeAt Go.RowKit
set_option linter.unusedVariables false

open Classical in
/-- the method that reads a root's attribute of that name -/
noncomputable def rootG (t : ByteArray) : Nat :=
  if t = fromT then 143 else if t = toT then 144 else 145
theorem from_to : fromT ≠ toT := by decide
theorem from_type : fromT ≠ typeT := by decide
theorem to_type : toT ≠ typeT := by decide
theorem rootG_from : rootG fromT = 143 := by unfold rootG; rw [if_pos rfl]
theorem rootG_to : rootG toT = 144 := by unfold rootG; rw [if_neg from_to.symm, if_pos rfl]
theorem rootG_type : rootG typeT = 145 := by unfold rootG; rw [if_neg from_type.symm, if_neg to_type.symm]
theorem rootG_cases {t : ByteArray} (h : t ∈ rootTs) : t = fromT ∨ t = toT ∨ t = typeT := by
  unfold rootTs at h
  simpa using h
theorem rootG_enters {t : ByteArray} (h : t ∈ rootTs) (args : Array Value) (W : World) : (Sem.run Tryz.prog (callFunc (rootG t) args) W) = .ok (.enter (rootG t) args) W := by
  rcases rootG_cases h with rfl | rfl | rfl
  · rw [rootG_from]; kernel_rfl
  · rw [rootG_to]; kernel_rfl
  · rw [rootG_type]; kernel_rfl
/-- what the method of that name reads is what the attribute says -/
theorem rootG_reads {x : At} (hx : x.name ∈ rootTs) (pb : Nat) (p : Pr) (a : Option Addr) (n c : Nat) (w0 w : World) (h : PrMut w0 w pb p a n c) :
    Calls Tryz.prog (rootG x.name) #[.pointer (some ⟨pb, 0, none⟩), .string x.value] w (PartRes w0 w pb a n c (rootOne x p)) := by
  unfold rootOne
  rcases rootG_cases hx with e | e | e
  · rw [e, rootG_from, if_pos rfl]
    exact readFrom_any pb p a n c x.value w0 w h
  · rw [e, rootG_to, if_neg (fun e => from_to (text_same e).symm), if_pos rfl]
    exact readTo_any pb p a n c x.value w0 w h
  · rw [e, rootG_type, if_neg (fun e => from_type (text_same e).symm), if_neg (fun e => to_type (text_same e).symm), if_pos rfl]
    exact readType_any pb p a n c x.value w0 w h
end Go.Proofs.YticpebpicdboaaaGreatDoor

/- The program's readFirst: what the root says. -/
namespace Go.Proofs.YticpebpicdboaaaGreatDoor
open Go.ChangeShapes Go.WideShapes Go.ChangeAt Go.RowKit
set_option linter.unusedVariables false

theorem map_only {Q : Nat → Prop} {P : Program} {k : TypeId} {R : Value → Option (DataW Unit × List MemPlace)} {w w' : World} {b n : Nat} {D : DataW Unit} (h : w.ownsMap P k R b n D) (ho : Only Q w w') (hn : ¬ Q b) : w'.ownsMap P k R b n D := by
  have hlt := h.lt
  obtain ⟨es, clock, hb, r⟩ := h
  exact ⟨es, clock, (ho.block b hlt hn).trans hb, r⟩
/-- the readings lie in block m of their own, and what is left of them -/
structure MayAt (w0 w : World) (pb m : Nat) (D : DataW Unit) (ts : List ByteArray) (g : ByteArray → Nat) : Prop where
  own : w.ownsMap Tryz.prog 9 (methElem pb) m 3 D
  may : May D ts g
  ge : w0.heap.size ≤ m
  ne : m ≠ pb
theorem MayAt.below {w0 w w' : World} {pb m : Nat} {D : DataW Unit} {ts : List ByteArray} {g : ByteArray → Nat} (h : MayAt w0 w pb m D ts g) (hb : Below w.heap.size w w') : MayAt w0 w' pb m D ts g :=
  ⟨map_only h.own (Only.below (P := fun _ => False) hb) id, h.may, h.ge, h.ne⟩
/-- what one meeting does -/
def MetRes (w0 : World) (pb m : Nat) (a : Option Addr) (n c : Nat) (ts : List ByteArray) (x : ByteArray) (g : ByteArray → Nat) (r : Option Pr) (bb : Bool) (w' : World) : Prop :=
  ∃ (q : Pr) (D : DataW Unit), PrMut w0 w' pb q a n c ∧ MayAt w0 w' pb m D (leftT ts [x]) g ∧ (bb = true → r = some q) ∧ (bb = false → r = none)
open Classical in
theorem meet_root {x : At} (hx : x.name ∈ rootTs) (hs : x.name.size ≤ maxLen) (pb m : Nat) (p : Pr) (a : Option Addr) (n c : Nat) (D : DataW Unit) (ts : List ByteArray) (w0 w : World) (h : PrMut w0 w pb p a n c) (hm : MayAt w0 w pb m D ts rootG) (hin : x.name ∈ ts) :
    Calls Tryz.prog 146 #[.map (some m), .string x.name, .string x.value] w fun e w2 => ∃ b, e = .returned (.bool b) ∧ MetRes w0 pb m a n c ts x.name rootG (rootOne x p) b w2 := by
  refine meet_yes pb m 3 D ts rootG x.name x.value w hs hm.own hm.may hin (fun b w2 => MetRes w0 pb m a n c ts x.name rootG (rootOne x p) b w2) (fun args W => rootG_enters hx args W) fun w' hown hturn => ?_
  have ho := Only.grown hturn.grown
  have hp := h.only ho (fun e => hm.ne (Option.some.inj e).symm) (fun i hi => by have := hm.ge; have := Option.some.inj hi; omega)
  refine (rootG_reads hx pb p a n c w0 w' hp).mono ?_
  rintro e w2 ⟨bb, q, rfl, hq, ho2, h1, h2⟩
  have hd := hm.may.del x.name
  have e : (ts.filter fun t => decide (t ≠ x.name)) = leftT ts [x.name] := by
    unfold leftT
    congr 1
    funext t
    simp
  rw [e] at hd
  exact ⟨bb, rfl, q, _, hq, ⟨map_only hown ho2 hm.ne, hd, hm.ge, hm.ne⟩, h1, h2⟩
theorem leftT_next (ts sn : List ByteArray) (x : ByteArray) : leftT (leftT ts sn) [x] = leftT ts (sn ++ [x]) := by
  unfold leftT
  rw [List.filter_filter]
  congr 1
  funext t
  by_cases h1 : t ∈ sn <;> by_cases h2 : t = x <;> simp [h1, h2]
set_option maxRecDepth 100000 in
set_option maxHeartbeats 3200000 in
theorem readFirst_any (pb : Nat) (x : It) (xa : Option Addr) (xn xc : Nat) (p : Pr) (a : Option Addr) (n c : Nat) (w0 w : World) (hg : itemCode x = 0) (hat : AtsAt w0 xa xn xc x.attrs) (h : PrMut w0 w pb p a n c) :
    Calls Tryz.prog 76 #[.pointer (some ⟨pb, 0, none⟩), .agg #[.int .i64 x.depth, .string x.text, .string x.space, .string x.name, .slice xa xn xc]] w (RootRes w0 pb a n c (rootP x p)) := by
  have hmm := @run_makeMap Tryz.prog
  have H := Lib.hid h
  have HAT := Lib.hid hat
  have HRI := Lib.hid (atts_rise hg)
  have H5 := Lib.hid (atts_small hg).1
  have hplt := h.is.lt
  have hpge := h.ge
  by_cases hs : x.space.toList = csL
  case neg =>
    have hr : rootP x p = none := by unfold rootP; rw [if_neg fun q => hs q.2]
    rw [hr]
    unfold csL at hs
    have hs2 : (x.space.toList == [106, 97, 98, 98, 101, 114, 58, 99, 108, 105, 101, 110, 116]) = false := by simpa using hs
    clear hs h hat
    go_enter Tryz.func76, Tryz.ntmps76
    go_wp2
    go_ret
    exact ⟨false, p, rfl, H.out.keep (below1 _ _), by simp, fun _ => rfl⟩
  by_cases hn : x.name.toList = [112, 114, 101, 115, 101, 110, 99, 101]
  case neg =>
    have hr : rootP x p = none := by unfold rootP; rw [prT_list, if_neg fun q => hn q.1]
    rw [hr]
    unfold csL at hs
    have hs2 : (x.space.toList == [106, 97, 98, 98, 101, 114, 58, 99, 108, 105, 101, 110, 116]) = true := by simpa using hs
    have hn2 : (x.name.toList == [112, 114, 101, 115, 101, 110, 99, 101]) = false := by simpa using hn
    clear hs hn h hat
    go_enter Tryz.func76, Tryz.ntmps76
    go_wp2
    go_ret
    exact ⟨false, p, rfl, H.out.keep (below1 _ _), by simp, fun _ => rfl⟩
  have hr : rootP x p = rootF x.attrs x.attrs.length 0 p := by unfold rootP; rw [prT_list, if_pos ⟨hn, hs⟩]
  rw [hr]
  unfold csL at hs
  have hs2 : (x.space.toList == [106, 97, 98, 98, 101, 114, 58, 99, 108, 105, 101, 110, 116]) = true := by simpa using hs
  have hn2 : (x.name.toList == [112, 114, 101, 115, 101, 110, 99, 101]) = true := by simpa using hn
  clear hs hn hr h hat
  obtain ⟨xd, xt, xs, xm, xl⟩ := x
  dsimp only at hs2 hn2 HAT HRI H5 ⊢
  have HLEN := Lib.hid HAT.out.len
  rw [HLEN.out] at H5 ⊢
  obtain ⟨r0, hr0⟩ : ∃ r0, rootF xl xn 0 p = r0 := ⟨_, rfl⟩
  rw [hr0]
  have HR0 := Lib.hid hr0
  clear hr0
  have HM0 : Hid (((w.alloc (.cells #[.int .i64 xd, .string xt, .string xs, .string xm, .slice xa xn xc] 77)).alloc (.map #[] 0)).ownsMap Tryz.prog 9 (methElem pb) (w.heap.size + 1) 0 (.map [])) := Lib.hid (by
    have h := World.ownsMap_made (w.alloc (.cells #[.int .i64 xd, .string xt, .string xs, .string xm, .slice xa xn xc] 77)) Tryz.prog 9 (methElem pb)
    simpa using h)
  have Q4 : Hid (∀ w1 w2 w3 : World, ((w.alloc (.cells #[.int .i64 xd, .string xt, .string xs, .string xm, .slice xa xn xc] 77)).alloc (.map #[] 0)).mapTurned w1 (w.heap.size + 1) → w1.mapTurned w2 (w.heap.size + 1) → w2.mapTurned w3 (w.heap.size + 1) → w3.cell? ⟨w.heap.size, 4, none⟩ = some (.slice xa xn xc)) := Lib.hid (fun w1 w2 w3 t1 t2 t3 => by
    have e : ((w.alloc (.cells #[.int .i64 xd, .string xt, .string xs, .string xm, .slice xa xn xc] 77)).alloc (.map #[] 0)).cell? ⟨w.heap.size, 4, none⟩ = some (.slice xa xn xc) := by simp
    have hne : ∀ o, some (⟨w.heap.size, o, none⟩ : Addr).block ≠ some (w.heap.size + 1) := fun o e => by have := Option.some.inj e; simp at this
    exact t3.grown.cell (t2.grown.cell (t1.grown.cell e (hne 4)) (hne 4)) (hne 4))
  go_enter Tryz.func76, Tryz.ntmps76
  go_wp2_with (first
    | (refine wpList_insert_in _ rfl _ _ _ 158 rfl 9 61 mkeyLaw Tryz.underlying158 (methElem pb) (w.heap.size + 1) 2 _ rfl HM2.out (by unfold maxLen; omega) _ _ _ rfl rfl (mkeyOf _ (by decide)) _ _ (methElem_is pb _) ?_; intro w3 h3 t3; have HM3 := Lib.hid h3; have HT3 := Lib.hid t3; clear h3 t3; have q4 := Q4.out _ _ _ HT1.out HT2.out HT3.out)
    | (refine wpList_insert_in _ rfl _ _ _ 158 rfl 9 61 mkeyLaw Tryz.underlying158 (methElem pb) (w.heap.size + 1) 1 _ rfl HM1.out (by unfold maxLen; omega) _ _ _ rfl rfl (mkeyOf _ (by decide)) _ _ (methElem_is pb _) ?_; intro w2 h2 t2; have HM2 := Lib.hid h2; have HT2 := Lib.hid t2; clear h2 t2)
    | (refine wpList_insert_in _ rfl _ _ _ 158 rfl 9 61 mkeyLaw Tryz.underlying158 (methElem pb) (w.heap.size + 1) 0 _ rfl HM0.out (by unfold maxLen; omega) _ _ _ rfl rfl (mkeyOf _ (by decide)) _ _ (methElem_is pb _) ?_; intro w1 h1 t1; have HM1 := Lib.hid h1; have HT1 := Lib.hid t1; clear h1 t1))
  have b0 := below2 w (.cells #[.int .i64 xd, .string xt, .string xs, .string xm, .slice xa xn xc] 77) (.map #[] 0)
  have hgr : ∀ j, some (w.heap.size + 1) = some j → w.heap.size ≤ j := fun j hj => by have := Option.some.inj hj; omega
  have b1 := b0.grown HT1.out.grown b0.size hgr
  have b2 := b1.grown HT2.out.grown b1.size hgr
  have b3 := b2.grown HT3.out.grown b2.size hgr
  have HP3 := Lib.hid (H.out.keep b3)
  have HMA : Hid (∃ D, MayAt w0 w3 pb (w.heap.size + 1) D (leftT rootTs (firstNs xl 0)) rootG) := Lib.hid ⟨_, HM3.out, by
    have h := May.three (g := rootG) from_to from_type to_type
    rw [rootG_from, rootG_to, rootG_type] at h
    rw [show firstNs xl 0 = [] from rfl, leftT_nil]
    exact h, by omega, by omega⟩
  clear HM0 HM1 HM2 HM3 HT1 HT2 HT3 Q4 b0 b1 b2 b3 hgr hs2 hn2
  go_wp2
  go_loopw [27] (fun i wr => ∃ (k : Nat) (q : Pr) (D : DataW Unit), k ≤ xn ∧ i = .int .i64 (k : Int) ∧ PrMut w0 wr pb q a n c ∧ MayAt w0 wr pb (w.heap.size + 1) D (leftT rootTs (firstNs xl k)) rootG ∧ r0 = rootF xl (xn - k) k q) (fun i _ => xn - (intOf i).toNat)
  case atStart =>
    obtain ⟨D, hD⟩ := HMA.out
    exact ⟨0, p, D, Nat.zero_le _, rfl, HP3.out, hD, HR0.out.symm⟩
  case round =>
    obtain ⟨k, q, D, hk, rfl, hq, hm, hrr⟩ := hrel
    have HQ := Lib.hid hq
    have HM := Lib.hid hm
    have HRR := Lib.hid hrr
    clear hq hm hrr q4 HMA HP3
    have h5 := H5.out
    by_cases hlt2 : k < xn
    · have q0 : (k : Int) < (xn : Int) := by omega
      have hxl : k < xl.length := by rw [HLEN.out]; exact hlt2
      have HSZ := Lib.hid (HAT.out.size k).1
      obtain ⟨ab, ao, rfl, hab, hcs⟩ := HAT.out.row.resolve_left (by omega)
      have f0 := (HQ.out.below.cell (p := ⟨ab, ao + k * 2, none⟩) hab).trans (hcs k hlt2).1
      have f1 := (HQ.out.below.cell (p := ⟨ab, ao + k * 2 + 1, none⟩) hab).trans (hcs k hlt2).2
      have HST : Hid (∀ s, rootOne (xl.getD k dAt) q = some s → r0 = rootF xl (xn - (k + 1)) (k + 1) s) := Lib.hid fun s e => by
        rw [HRR.out, show xn - k = (xn - (k + 1)) + 1 from by omega]
        exact rootF_step e
      have HNO : Hid (rootOne (xl.getD k dAt) q = none → r0 = none) := Lib.hid fun e => by
        rw [HRR.out, show xn - k = (xn - (k + 1)) + 1 from by omega]
        exact rootF_stop e
      have HLF := Lib.hid (left_root HRI.out hxl)
      have HNX := Lib.hid (firstNs_more xl k)
      clear hcs HRR
      generalize xl.getD k dAt = y at f0 f1 HST HNO HLF HNX HSZ
      have HQ1 := Lib.hid (HQ.out.keep (below1 wr (.cells #[.string y.name, .string y.value] 75)))
      have HM1 := Lib.hid (HM.out.below (below1 wr (.cells #[.string y.name, .string y.value] 75)))
      by_cases hin : y.name ∈ rootTs
      · go_wp2_with fail
        refine (meet_root hin (by unfold maxLen; exact HSZ.out) pb (w.heap.size + 1) q a n c D _ w0 _ HQ1.out HM1.out (HLF.out.2 hin)).mono ?_
        rintro e w2 ⟨bb, rfl, q2, D2, hq2, hm2, h1, h2⟩
        have HQ2 := Lib.hid hq2
        have HM2 := Lib.hid hm2
        have HH1 := Lib.hid h1
        have HH2 := Lib.hid h2
        clear hq2 hm2 h1 h2
        cases bb
        · go_wp2
          go_ret
          exact ⟨false, q2, rfl, HQ2.out, by simp, fun _ => HNO.out (HH2.out trivial)⟩
        · go_wp2
          go_roundw
          case rel =>
            refine ⟨k + 1, q2, D2, by omega, by go_num, HQ2.out, ?_, HST.out _ (HH1.out trivial)⟩
            have := HM2.out
            rw [leftT_next] at this
            rw [HNX.out]
            exact this
          case measure => simp [intOf]; omega
      · go_wp2_with fail
        refine (meet_no pb (w.heap.size + 1) 3 D _ rootG y.name y.value _ (by unfold maxLen; exact HSZ.out) HM1.out.own HM1.out.may (fun e => hin (HLF.out.1 e))).mono ?_
        rintro e w2 ⟨rfl, rfl⟩
        go_wp2
        go_ret
        exact ⟨false, q, rfl, HQ1.out, by simp, fun _ => HNO.out (rootOne_out hin)⟩
    · obtain rfl : k = xn := by omega
      have hr0 := HRR.out
      rw [Nat.sub_self] at hr0
      go_wp2
      go_ret
      exact ⟨true, q, rfl, HQ.out, fun _ => hr0, by simp⟩
end Go.Proofs.YticpebpicdboaaaGreatDoor
