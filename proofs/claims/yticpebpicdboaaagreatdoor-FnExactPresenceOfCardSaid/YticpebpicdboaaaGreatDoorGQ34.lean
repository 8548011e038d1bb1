/- A code and a number: handed back. -/
import Derived.Test.YticpebpicdboaaaGreatDoorGQ1
import Derived.Test.YticpebpicdboaaaGreatDoorGQ33
import Derived.Lib.ParseIntBCases
import Derived.Test.YticpebpicdboaaaGreatDoorGQ32
import Derived.Test.YticpebpicdboaaaGreatDoorGQ4
import Derived.Test.YticpebpicdboaaaGreatDoorGQ6
namespace Go.Proofs.YticpebpicdboaaaGreatDoor
open Go.ChangeShapes Go.WideShapes Go.ChangeAt Go.RowKit
set_option linter.unusedVariables false
/-- a struct of two integers is handed back -/
def Res2 (w : World) (x y : Int) (e : Ending) (w' : World) : Prop := e = .returned (.agg #[.int .i64 x, .int .i64 y]) ∧ Below w.heap.size w w'
end Go.Proofs.YticpebpicdboaaaGreatDoor

/- The program's NumberOf: strconv.ParseInt. -/
namespace Go.Proofs.YticpebpicdboaaaGreatDoor
open Go.ChangeShapes Go.WideShapes Go.ChangeAt Go.RowKit Go.Shelf
set_option linter.unusedVariables false

theorem parseM_dig (M acc x : Nat) (r : List UInt8) (hx : x < 10) (ha : acc < 1000) (hM : 10000 ≤ M) : Lib.parseUintM M acc (UInt8.ofNat (48 + x) :: r) = Lib.parseUintM M (acc * 10 + x) r := by
  have e : (UInt8.ofNat (48 + x)).toNat = 48 + x := by
    have hc : x = 0 ∨ x = 1 ∨ x = 2 ∨ x = 3 ∨ x = 4 ∨ x = 5 ∨ x = 6 ∨ x = 7 ∨ x = 8 ∨ x = 9 := by omega
    rcases hc with rfl | rfl | rfl | rfl | rfl | rfl | rfl | rfl | rfl | rfl <;> rfl
  rw [Lib.parseUintM, e, if_pos (by omega), if_neg (by omega), if_neg (by omega)]
  congr 1
  omega
theorem parseM_digT (M n : Nat) (hn : n < 1000) (hM : 10000 ≤ M) : Lib.parseUintM M 0 (digT n).data.toList = .ok n := by
  by_cases h : n < 10
  · rw [digT_small h, dig_data n h, parseM_dig M 0 n [] h (by omega) hM, Lib.parseUintM]
    simp
  · by_cases h2 : n / 10 < 10
    · rw [digT_data h, digT_small h2, dig_data _ h2, List.singleton_append, parseM_dig M _ _ _ h2 (by omega) hM, parseM_dig M _ _ _ (by omega) (by omega) hM, Lib.parseUintM]
      congr 1
      omega
    · have h3 : n / 10 / 10 < 10 := by omega
      rw [digT_data h, digT_data h2, digT_small h3, dig_data _ h3, List.append_assoc, List.singleton_append, List.singleton_append, parseM_dig M _ _ _ h3 (by omega) hM, parseM_dig M _ _ _ (by omega) (by omega) hM, parseM_dig M _ _ _ (by omega) (by omega) hM, Lib.parseUintM]
      congr 1
      omega
theorem parse_numT (m : Int) (h1 : -999 ≤ m) (h2 : m ≤ 999) : Lib.parseIntB 64 (numT m).data.toList = .ok m := by
  have hM : 10000 ≤ 2 ^ 64 - 1 := by decide
  have hd := parseM_digT (2 ^ 64 - 1) m.natAbs (by omega) hM
  obtain ⟨c, t, e, hc⟩ := digT_head m.natAbs
  have hU : Lib.parseUintB 64 (digT m.natAbs).data.toList = .ok m.natAbs := by
    unfold Lib.parseUintB
    rw [if_neg (by rw [e]; simp), hd]
  have hall := (numF_dig m.natAbs).1
  by_cases hm : m < 0
  · have hT : (numT m).data.toList = 45 :: (digT m.natAbs).data.toList := by
      unfold numT
      rw [if_pos hm, ByteArray.data_append, Array.toList_append]
      rfl
    rw [hT, Lib.parseIntB_minus, hU]
    have h63 : ¬ (2 ^ (64 - 1) < m.natAbs) := by
      have : (2 : Nat) ^ (64 - 1) = 9223372036854775808 := by decide
      omega
    show (if 2 ^ (64 - 1) < m.natAbs then _ else _) = _
    rw [if_neg h63]
    congr 1
    omega
  · have hT : (numT m).data.toList = (digT m.natAbs).data.toList := by unfold numT; rw [if_neg hm]
    have h43 : c ≠ 43 := by
      rintro rfl
      rw [e, List.all_cons, Bool.and_eq_true] at hall
      exact absurd hall.1 (by decide)
    have n43 : c.toNat ≠ 43 := fun x => h43 (UInt8.toNat_inj.1 x)
    have n45 : c.toNat ≠ 45 := fun x => hc (UInt8.toNat_inj.1 x)
    rw [hT, e, Lib.parseIntB_plain 64 c t n43 n45, ← e, hU]
    have h63 : ¬ (2 ^ (64 - 1) ≤ m.natAbs) := by
      have : (2 : Nat) ^ (64 - 1) = 9223372036854775808 := by decide
      omega
    show (if 2 ^ (64 - 1) ≤ m.natAbs then _ else _) = _
    rw [if_neg h63]
    congr 1
    omega
/-- a variable of the library's holds an error -/
structure SynE (w : World) (a : Addr) : Prop where
  lt : 4 < w.heap.size
  cell : w.cell? ⟨4, 0, none⟩ = some (.iface 384 (.pointer (some a)))
structure RngE (w : World) (a : Addr) : Prop where
  lt : 5 < w.heap.size
  cell : w.cell? ⟨5, 0, none⟩ = some (.iface 384 (.pointer (some a)))
/-- two variables of the library's hold errors -/
structure NumErrs (w : World) (a b : Addr) : Prop where
  lt1 : 4 < w.heap.size
  cell1 : w.cell? ⟨4, 0, none⟩ = some (.iface 384 (.pointer (some a)))
  lt2 : 5 < w.heap.size
  cell2 : w.cell? ⟨5, 0, none⟩ = some (.iface 384 (.pointer (some b)))
theorem NumErrs.below {w w' : World} {a b : Addr} (h : NumErrs w a b) (hb : Below w.heap.size w w') : NumErrs w' a b :=
  ⟨Nat.lt_of_lt_of_le h.lt1 hb.size, (hb.cell (p := ⟨4, 0, none⟩) h.lt1).trans h.cell1, Nat.lt_of_lt_of_le h.lt2 hb.size, (hb.cell (p := ⟨5, 0, none⟩) h.lt2).trans h.cell2⟩
theorem parseInt_any (s : ByteArray) (hs : s.size ≤ 281474976710656) (w : World) (a b : Addr) (h : NumErrs w a b) :
    Calls Tryz.prog 283 #[.string s, .int .i64 10, .int .i64 64] w fun e w' => (∃ (m : Int) (v : Value), e = .returned (.tuple #[.int .i64 m, v]) ∧ ((v = .nilIface ∧ Lib.parseIntB 64 s.data.toList = .ok m) ∨ ((∃ T p, v = .iface T p) ∧ ∀ m, Lib.parseIntB 64 s.data.toList ≠ .ok m))) ∧ Below w.heap.size w w' := by
  cases hp : Lib.parseIntB 64 s.data.toList with
  | ok m =>
    refine (Tryz.strconv_ParseInt_10_at64_ok s (by omega) m hp w).mono ?_
    rintro e w' ⟨rfl, hw⟩
    refine ⟨⟨m, _, rfl, .inl ⟨rfl, rfl⟩⟩, ?_⟩
    rcases hw with rfl | ⟨t, rfl⟩
    · exact Below.refl _ _
    · exact Lib.bytesWorld_below _ _ _
  | «syntax» =>
    refine (Tryz.strconv_ParseInt_10_at64_syntax s hs hp _ w h.cell1 (.inr ⟨_, _, rfl⟩)).mono ?_
    rintro e w' ⟨N, rfl, _, _, hb⟩
    exact ⟨⟨_, _, rfl, .inr ⟨⟨_, _, rfl⟩, fun m e => by cases e⟩⟩, hb⟩
  | range =>
    refine (Tryz.strconv_ParseInt_10_at64_range s hs hp _ w h.cell2 (.inr ⟨_, _, rfl⟩)).mono ?_
    rintro e w' ⟨N, rfl, _, _, hb⟩
    exact ⟨⟨_, _, rfl, .inr ⟨⟨_, _, rfl⟩, fun m e => by cases e⟩⟩, hb⟩

theorem numOf_bad {l : List UInt8} (h : ∀ m, Lib.parseIntB 64 l ≠ .ok m) : numOf l = none := by
  cases ho : numOf l with
  | none => rfl
  | some m =>
    obtain ⟨h1, h2, h3⟩ := numOf_some ho
    exact absurd (h3 ▸ parse_numT m h1 h2) (h m)
theorem numText_empty {n : Int} (h : inB n (-999) 999 = false) : (numText n).data.toList = [] := by unfold numText; rw [h]; rfl
theorem numOf_ok {l : List UInt8} {m : Int} (h : Lib.parseIntB 64 l = .ok m) : numOf l = if (numText m).data.toList = l then some m else none := by
  cases hm : inB m (-999) 999
  · rw [numText_empty hm]
    have hne : ¬ ([] : List UInt8) = l := by
      rintro rfl
      cases h
    rw [if_neg hne]
    cases ho : numOf l with
    | none => rfl
    | some k =>
      obtain ⟨h1, h2, h3⟩ := numOf_some ho
      have h4 := parse_numT k h1 h2
      rw [h3, h] at h4
      injection h4 with h4
      subst h4
      simp [inB] at hm
      omega
  · have hb : -999 ≤ m ∧ m ≤ 999 := by simpa [inB] using hm
    have e : numText m = numT m := by unfold numText; rw [hm]; rfl
    rw [e]
    by_cases hl : (numT m).data.toList = l
    · rw [if_pos hl, ← hl]
      exact numOf_text m hb.1 hb.2
    · rw [if_neg hl]
      cases ho : numOf l with
      | none => rfl
      | some k =>
        obtain ⟨h1, h2, h3⟩ := numOf_some ho
        have h4 := parse_numT k h1 h2
        rw [h3, h] at h4
        injection h4 with h4
        subst h4
        exact absurd h3 hl

set_option maxRecDepth 100000 in
set_option maxHeartbeats 1600000 in
theorem implNumberOf_any (s : ByteArray) (hs : s.size ≤ 281474976710656) (w : World) (a b : Addr) (hE : NumErrs w a b) (hT : Pows w) :
    Calls Tryz.prog 229 #[.string s] w (Res2 w (numOfCode s.data.toList) (numOfVal s.data.toList)) := by
  have KP := Lib.hid (fun W h => parseInt_any s hs W a b h)
  have KN := Lib.hid (fun (m : Int) W (h : Pows W) => implNumberText_any m W h)
  have HE := Lib.hid (fun o => hE.below (below1 w o))
  have HE0 := Lib.hid hE
  have HT := Lib.hid hT
  have hcd : ∀ m, Lib.parseIntB 64 s.data.toList = .ok m → numOfCode s.data.toList = (if (numText m).toList == s.toList then 0 else 5) ∧ numOfVal s.data.toList = (if (numText m).toList == s.toList then m else 0) := by
    intro m hm
    have ho := numOf_ok hm
    unfold numOfCode numOfVal
    rw [ho, ByteArray.toList_eq, ByteArray.toList_eq]
    by_cases hx : (numText m).data.toList = s.data.toList
    · have hb : ((numText m).data.toList == s.data.toList) = true := beq_iff_eq.2 hx
      rw [if_pos hx, hb]
      exact ⟨rfl, rfl⟩
    · have hb : ((numText m).data.toList == s.data.toList) = false := beq_eq_false_iff_ne.2 hx
      rw [if_neg hx, hb]
      exact ⟨rfl, rfl⟩
  have hbad : (∀ m, Lib.parseIntB 64 s.data.toList ≠ .ok m) → numOfCode s.data.toList = 5 ∧ numOfVal s.data.toList = 0 := by
    intro h
    have ho := numOf_bad h
    unfold numOfCode numOfVal
    rw [ho]
    exact ⟨rfl, rfl⟩
  have HC := Lib.hid hcd
  have HBD := Lib.hid hbad
  generalize hl : numOfCode s.data.toList = cd at HC HBD ⊢
  generalize hv : numOfVal s.data.toList = vx at HC HBD ⊢
  clear hl hv hcd hbad hE hT hs
  unfold TxtRes at KN
  unfold Res2
  go_enter Tryz.func229, Tryz.ntmps229
  go_wp2_with fail
  refine (KP.out _ (HE.out _)).mono ?_
  rintro e w1 ⟨⟨m, v, rfl, hmv⟩, hb1⟩
  have HT1 := Lib.hid (HT.out.below (below_then (below1 w _) hb1))
  have B1 := Lib.hid hb1
  rcases hmv with ⟨rfl, hm⟩ | ⟨⟨T, p, rfl⟩, hm⟩
  · have E := HC.out m hm
    have KM := Lib.hid (fun W => KN.out m W)
    clear hm hb1 KN HC HBD KP
    generalize numText m = tx at E KM
    generalize numCode m = nc at KM
    have E1 := Lib.hid E
    have hfl := fun W => field_text nc tx W
    clear E
    go_wp2_with fail
    refine (KM.out _ HT1.out).mono ?_
    rintro e w2 ⟨rfl, hb2⟩
    have hb := below_then B1.out hb2
    obtain ⟨hc, hf⟩ := bcell hb
    have hz := hb.size
    simp at hz
    have HB := Lib.hid hb
    clear hb2 hb
    obtain ⟨e1, e2⟩ := E1.out
    cases hq : tx.toList == s.toList
    · rw [hq] at e1 e2
      have E := Lib.hid (And.intro e1 e2)
      clear e1 e2 E1
      go_wp2
      exact bodyPost_ret (v := .agg #[.int .i64 5, .int .i64 0]) (by simp [results, Tryz.results229, go_sem, hc]) rfl ⟨by rw [E.out.1, E.out.2]; rfl, (((below1 w _).trans (HB.out.mono (by simp))).setCell (by simp) _).setCell (by simp) _⟩
    · rw [hq] at e1 e2
      have E := Lib.hid (And.intro e1 e2)
      clear e1 e2
      go_wp2
      exact bodyPost_ret (v := .agg #[.int .i64 0, .int .i64 m]) (by simp [results, Tryz.results229, go_sem, hc]) rfl ⟨by rw [E.out.1, E.out.2]; rfl, (((below1 w _).trans (HB.out.mono (by simp))).setCell (by simp) _).setCell (by simp) _⟩
  · have E := Lib.hid (HBD.out hm)
    obtain ⟨hc, hf⟩ := bcell hb1
    have hz := hb1.size
    simp at hz
    clear hm hb1
    go_wp2
    exact bodyPost_ret (v := .agg #[.int .i64 5, .int .i64 0]) (by simp [results, Tryz.results229, go_sem, hc]) rfl ⟨by rw [E.out.1, E.out.2], (((below1 w _).trans (B1.out.mono (by simp))).setCell (by simp) _).setCell (by simp) _⟩
end Go.Proofs.YticpebpicdboaaaGreatDoor

/- The program's reading of a priority. -/
namespace Go.Proofs.YticpebpicdboaaaGreatDoor
open Go.ChangeShapes Go.WideShapes Go.ChangeAt Go.RowKit
set_option linter.unusedVariables false

/-- the presence with the priority that a text says -/
def prioRead (p : Pr) (t : ByteArray) : Option Pr := match numOf t.toList with | some m => some { p with prio := m } | none => none
theorem prioRead_is (p : Pr) (t : ByteArray) : (numOfCode t.data.toList = 0 → prioRead p t = some { p with prio := numOfVal t.data.toList }) ∧ (numOfCode t.data.toList ≠ 0 → prioRead p t = none) := by
  unfold prioRead numOfCode numOfVal
  rw [ByteArray.toList_eq]
  cases numOf t.data.toList with
  | some m => simp
  | none => simp
set_option maxHeartbeats 800000 in
theorem readPriority_any (pb : Nat) (p : Pr) (a : Option Addr) (n c : Nat) (t : ByteArray) (ea eb : Addr) (w0 w : World) (ht : t.size ≤ 281474976710656) (hE : NumErrs w ea eb) (hT : Pows w) (h : PrMut w0 w pb p a n c) :
    Calls Tryz.prog 149 #[.pointer (some ⟨pb, 0, none⟩), .string t] w (PartRes w0 w pb a n c (prioRead p t)) := by
  have H := Lib.hid h
  have K := Lib.hid (implNumberOf_any t ht w ea eb hE hT)
  have HR := Lib.hid (prioRead_is p t)
  clear h hE hT
  generalize numOfCode t.data.toList = cd at K HR
  generalize numOfVal t.data.toList = vx at K HR
  generalize prioRead p t = r at HR ⊢
  go_enter Tryz.func149, Tryz.ntmps149
  go_wp2_with fail
  refine K.out.mono ?_
  rintro e w1 ⟨rfl, hb⟩
  have hq := (H.out.keep hb).keep (below1 w1 (.cells #[.int .i64 cd, .int .i64 vx] 185))
  have z := hq.is.c5
  have y := hq.fz 5
  have HQ := Lib.hid hq
  have HB := Lib.hid (below_then hb (below1 w1 (.cells #[.int .i64 cd, .int .i64 vx] 185)))
  have hne : pb ≠ w1.heap.size := by have := (H.out.keep hb).is.lt; omega
  have hne2 : w1.heap.size ≠ pb := hne.symm
  clear hq H K hb
  go_wp2
  go_ret
  refine ⟨decide (cd = 0), _, rfl, HQ.out.setPrio vx, (Only.below HB.out).trans (Only.set (P := fun i => i = pb) _ ⟨pb, 5, none⟩ _ rfl), fun e => ?_, fun e => ?_⟩
  · exact HR.out.1 (of_decide_eq_true e)
  · exact HR.out.2 (of_decide_eq_false e)
end Go.Proofs.YticpebpicdboaaaGreatDoor

/- The three readings of parts, by their names. -/
namespace Go.Proofs.YticpebpicdboaaaGreatDoor
open Go.ChangeShapes Go.WideShapes Go.ChangeAt Go.RowKit
set_option linter.unusedVariables false

open Classical in
/-- the method that reads a part of that name -/
noncomputable def partG (t : ByteArray) : Nat :=
  if t = showNm then 147 else if t = statusNm then 148 else 149
theorem show_status : showNm ≠ statusNm := by decide
theorem show_prio : showNm ≠ prioNm := by decide
theorem status_prio : statusNm ≠ prioNm := by decide
theorem partG_show : partG showNm = 147 := by unfold partG; rw [if_pos rfl]
theorem partG_status : partG statusNm = 148 := by unfold partG; rw [if_neg show_status.symm, if_pos rfl]
theorem partG_prio : partG prioNm = 149 := by unfold partG; rw [if_neg show_prio.symm, if_neg status_prio.symm]
theorem partG_cases {t : ByteArray} (h : t ∈ partTs) : t = showNm ∨ t = statusNm ∨ t = prioNm := by
  unfold partTs at h
  simpa using h
theorem partG_enters {t : ByteArray} (h : t ∈ partTs) (args : Array Value) (W : World) : (Sem.run Tryz.prog (callFunc (partG t) args) W) = .ok (.enter (partG t) args) W := by
  rcases partG_cases h with rfl | rfl | rfl
  · rw [partG_show]; kernel_rfl
  · rw [partG_status]; kernel_rfl
  · rw [partG_prio]; kernel_rfl
/-- what a part of that name and that text says -/
def partOne (nm t : ByteArray) (p : Pr) : Option Pr :=
  if nm.toList = showNm.toList then (if hasIx showWs t < 1 then none else some { p with shown := hasIx showWs t })
  else if nm.toList = statusNm.toList then some { p with status := t }
  else if nm.toList = prioNm.toList then (match numOf t.toList with | some n => some { p with prio := n } | none => none)
  else none
theorem partP_none {l : List It} {i : Nat} {p : Pr} (h : textL l i = none) : partP l i p = none := by
  unfold partP
  rw [h]
theorem partP_attrs {l : List It} {i : Nat} {p : Pr} (h : (l.getD i dIt).attrs.length ≠ 0) : partP l i p = none := by
  unfold partP
  cases textL l i with
  | none => rfl
  | some t => dsimp only; rw [if_pos h]
theorem partP_some {l : List It} {i : Nat} {p : Pr} {t : ByteArray} (h : textL l i = some t) (h2 : ¬ (l.getD i dIt).attrs.length ≠ 0) : partP l i p = partOne (l.getD i dIt).name t p := by
  unfold partP partOne
  rw [h]
  dsimp only
  rw [if_neg h2]
  rfl
/-- what the method of that name reads is what the part says -/
theorem partG_reads {nm t : ByteArray} (hx : nm ∈ partTs) (ht : t.size ≤ 281474976710656) (ea eb : Addr) (pb : Nat) (p : Pr) (a : Option Addr) (n c : Nat) (w0 w : World) (hE : NumErrs w ea eb) (hT : Pows w) (h : PrMut w0 w pb p a n c) :
    Calls Tryz.prog (partG nm) #[.pointer (some ⟨pb, 0, none⟩), .string t] w (PartRes w0 w pb a n c (partOne nm t p)) := by
  unfold partOne
  rcases partG_cases hx with e | e | e
  · rw [e, partG_show, if_pos rfl]
    exact readShow_any pb p a n c t w0 w h
  · rw [e, partG_status, if_neg (fun e => show_status (text_same e).symm), if_pos rfl]
    exact readStatus_any pb p a n c t w0 w h
  · rw [e, partG_prio, if_neg (fun e => show_prio (text_same e).symm), if_neg (fun e => status_prio (text_same e).symm), if_pos rfl]
    exact readPriority_any pb p a n c t ea eb w0 w ht hE hT h
theorem MayAt.only {P : Nat → Prop} {w0 w w' : World} {pb m : Nat} {D : DataW Unit} {ts : List ByteArray} {g : ByteArray → Nat} (h : MayAt w0 w pb m D ts g) (ho : Only P w w') (hn : ¬ P m) : MayAt w0 w' pb m D ts g :=
  ⟨map_only h.own ho hn, h.may, h.ge, h.ne⟩
open Classical in
theorem meet_part {nm t : ByteArray} (hx : nm ∈ partTs) (hs : nm.size ≤ maxLen) (ht : t.size ≤ 281474976710656) (ea eb : Addr) (pb m : Nat) (p : Pr) (a : Option Addr) (n c : Nat) (D : DataW Unit) (ts : List ByteArray) (w0 w : World) (hE : NumErrs w0 ea eb) (hT : Pows w0) (h : PrMut w0 w pb p a n c) (hm : MayAt w0 w pb m D ts partG) (hin : nm ∈ ts) :
    Calls Tryz.prog 146 #[.map (some m), .string nm, .string t] w fun e w2 => ∃ b, e = .returned (.bool b) ∧ MetRes w0 pb m a n c ts nm partG (partOne nm t p) b w2 ∧ Only (fun i => i = pb ∨ i = m) w w2 := by
  refine meet_yes pb m 3 D ts partG nm t w hs hm.own hm.may hin (fun b w2 => MetRes w0 pb m a n c ts nm partG (partOne nm t p) b w2 ∧ Only (fun i => i = pb ∨ i = m) w w2) (fun args W => partG_enters hx args W) fun w' hown hturn => ?_
  have ho := Only.grown hturn.grown
  have hp := h.only ho (fun e => hm.ne (Option.some.inj e).symm) (fun i hi => by have := hm.ge; have := Option.some.inj hi; omega)
  refine (partG_reads hx ht ea eb pb p a n c w0 w' (hE.below hp.below) (hT.below hp.below) hp).mono ?_
  rintro e w2 ⟨bb, q, rfl, hq, ho2, h1, h2⟩
  have hd := hm.may.del nm
  have e : (ts.filter fun t => decide (t ≠ nm)) = leftT ts [nm] := by
    unfold leftT
    congr 1
    funext t
    simp
  rw [e] at hd
  exact ⟨bb, rfl, ⟨q, _, hq, ⟨map_only hown ho2 hm.ne, hd, hm.ge, hm.ne⟩, h1, h2⟩, (ho.mono (fun i hi => .inr (Option.some.inj hi))).trans (ho2.mono (fun i hi => .inl hi))⟩
end Go.Proofs.YticpebpicdboaaaGreatDoor

/- A tree laid flat by its kids is the part of the row up to its end. -/
namespace Go.Proofs.YticpebpicdboaaaGreatDoor
open Go.ChangeShapes Go.WideShapes Go.ChangeAt Go.RowKit
set_option linter.unusedVariables false

theorem kids_at {l : List It} {a n x : Nat} (hx : x < n) (h : kidB l a x = true) : (kidsUp l x a).length < (kidsUp l n a).length ∧ (kidsUp l n a).getD (kidsUp l x a).length 0 = x := by
  have e : List.range n = List.range x ++ (x :: List.range' (x + 1) (n - x - 1)) := by
    have e1 := List.range'_append (s := 0) (m := x) (n := n - x) (step := 1)
    rw [show 0 + 1 * x = x from by omega, show x + (n - x) = n from by omega] at e1
    have e2 : List.range' x (n - x) = x :: List.range' (x + 1) (n - x - 1) := by
      conv => lhs; rw [show n - x = (n - x - 1) + 1 from by omega]
      rw [List.range'_succ]
    rw [List.range_eq_range', List.range_eq_range', ← e1, e2]
  have e3 : kidsUp l n a = kidsUp l x a ++ (x :: (List.range' (x + 1) (n - x - 1)).filter (kidB l a)) := by
    unfold kidsUp
    rw [e, List.filter_append, List.filter_cons, if_pos h]
  rw [e3]
  refine ⟨by simp, ?_⟩
  rw [List.getD_eq_getElem?_getD, List.getElem?_append_right (Nat.le_refl _), Nat.sub_self]
  rfl
theorem kids_next {l : List It} {a x : Nat} (h : kidB l a x = true) : ∀ (m : Nat), (∀ i, x < i → i < x + 1 + m → kidB l a i = false) → (kidsUp l (x + 1 + m) a).length = (kidsUp l x a).length + 1
  | 0, _ => by rw [Nat.add_zero, kidsUp_succ, if_pos h]; simp
  | m + 1, hn => by
    have h1 := kids_next h m (fun i g1 g2 => hn i g1 (by omega))
    rw [show x + 1 + (m + 1) = (x + 1 + m) + 1 from by omega, kidsUp_succ, if_neg (by rw [hn (x + 1 + m) (by omega) (by omega)]; simp), List.append_nil]
    exact h1
theorem kids_stop {l : List It} {a x : Nat} : ∀ (m : Nat), (∀ i, x ≤ i → i < x + m → kidB l a i = false) → kidsUp l (x + m) a = kidsUp l x a
  | 0, _ => rfl
  | m + 1, hn => by
    rw [show x + (m + 1) = (x + m) + 1 from by omega, kidsUp_succ, if_neg (by rw [hn (x + m) (by omega) (by omega)]; simp), List.append_nil]
    exact kids_stop m (fun i g1 g2 => hn i g1 (by omega))
theorem kids_zero {l : List It} (h : Rises l) {a : Nat} (ha : a < l.length) : kidsUp l (a + 1) a = [] := by
  have hn : ∀ i, 0 ≤ i → i < 0 + (a + 1) → kidB l a i = false := fun i _ hi => by
    rw [← Bool.not_eq_true]
    intro hk
    have := (kid_iff h ha (k := i) (by omega)).1 hk
    omega
  have := kids_stop (a + 1) hn
  rw [Nat.zero_add] at this
  rw [this]
  rfl
theorem kids_all {l : List It} (h : Rises l) {a : Nat} (ha : a < l.length) : kidsUp l l.length a = kidsUp l (endL l a) a := by
  have hb := endL_bounds ha
  have := kids_stop (l := l) (a := a) (x := endL l a) (l.length - endL l a) (fun i g1 g2 => by
    rw [← Bool.not_eq_true]
    intro hk
    have := (kid_iff h ha (k := i) (by omega)).1 hk
    omega)
  rwa [show endL l a + (l.length - endL l a) = l.length from by omega] at this
theorem kid_pos0 {l : List It} (h : Rises l) {a : Nat} (ha : a < l.length) : a + 1 = endL l a ∨ kidB l a (a + 1) = true := by
  have hb := endL_bounds ha
  by_cases e : a + 1 = endL l a
  · exact .inl e
  · right
    have h1 := endL_in (l := l) (a := a) (i := a + 1) (by omega) (by omega)
    have h2 := (h.step (a + 1) (by omega) (by omega)).2
    rw [Nat.add_sub_cancel] at h2
    exact (kid_iff h ha (by omega)).2 ⟨by omega, by omega, by omega⟩
theorem kid_pos1 {l : List It} (h : Rises l) {a x : Nat} (ha : a < l.length) (hx : x < l.length) (hk : kidB l a x = true) :
    x + 1 ≤ endL l x ∧ endL l x ≤ endL l a ∧ (endL l x = endL l a ∨ kidB l a (endL l x) = true) ∧ (∀ i, x < i → i < endL l x → kidB l a i = false) ∧ dp l x = dp l a + 1 ∧ a < x := by
  have hb := endL_bounds ha
  have hbx := endL_bounds hx
  obtain ⟨h1, h2, h3⟩ := (kid_iff h ha hx).1 hk
  have hle : endL l x ≤ endL l a := by
    refine Nat.le_of_not_lt fun hlt => ?_
    have h4 := endL_in (l := l) (a := x) (i := endL l a) h2 hlt
    rcases endL_out ha with h5 | h5
    · omega
    · omega
  refine ⟨hbx.1, hle, ?_, fun i g1 g2 => ?_, h3, h1⟩
  · by_cases e : endL l x = endL l a
    · exact .inl e
    · right
      have h4 := endL_in (l := l) (a := a) (i := endL l x) (by omega) (by omega)
      rcases endL_out hx with h5 | h5
      · omega
      · exact (kid_iff h ha (by omega)).2 ⟨by omega, by omega, by omega⟩
  · rw [← Bool.not_eq_true]
    intro hk2
    have h4 := endL_in (l := l) (a := x) (i := i) g1 g2
    have h5 := (kid_iff h ha (k := i) (by omega)).1 hk2
    omega
theorem kids_count {l : List It} (h : Rises l) {a x : Nat} (ha : a < l.length) (hx : x < l.length) (hk : kidB l a x = true) : (kidsUp l (endL l x) a).length = (kidsUp l x a).length + 1 := by
  obtain ⟨h1, _, _, h4, _, _⟩ := kid_pos1 h ha hx hk
  have := kids_next hk (endL l x - (x + 1)) (fun i g1 g2 => h4 i g1 (by omega))
  rwa [show x + 1 + (endL l x - (x + 1)) = endL l x from by omega] at this
/-- j kids of k stand ahead of x, which is the next one, or the end -/
def LaidSt (l : List It) (k j x : Nat) : Prop := j = (kidsUp l x k).length ∧ k + 1 ≤ x ∧ x ≤ endL l k ∧ (x = endL l k ∨ kidB l k x = true)
theorem laid_start {l : List It} (h : Rises l) {k : Nat} (hk : k < l.length) : LaidSt l k 0 (k + 1) :=
  ⟨by rw [kids_zero h hk]; rfl, Nat.le_refl _, (endL_bounds hk).1, kid_pos0 h hk⟩
theorem laid_more {l : List It} (h : Rises l) {k j x : Nat} (hk : k < l.length) (hs : LaidSt l k j x) (hj : j < (kidsUp l l.length k).length) :
    x < endL l k ∧ x < l.length ∧ kidB l k x = true ∧ (kidsUp l l.length k).getD j 0 = x ∧ LaidSt l k (j + 1) (endL l x) ∧ dp l x = dp l k + 1 ∧ x ≤ endL l x ∧ endL l x ≤ endL l k ∧ k + 1 ≤ x := by
  obtain ⟨h1, h2, h3, h4⟩ := hs
  have hb := endL_bounds hk
  have hne : x ≠ endL l k := fun e => by
    rw [e, ← kids_all h hk] at h1
    omega
  have hx : x < l.length := by omega
  have hkb := h4.resolve_left hne
  obtain ⟨g1, g2, g3, g4, g5, g6⟩ := kid_pos1 h hk hx hkb
  refine ⟨by omega, hx, hkb, ?_, ⟨?_, by omega, g2, g3⟩, g5, by omega, g2, h2⟩
  · rw [h1]
    exact (kids_at hx hkb).2
  · rw [kids_count h hk hx hkb, h1]
theorem laid_last {l : List It} (h : Rises l) {k j x : Nat} (hk : k < l.length) (hs : LaidSt l k j x) (hj : ¬ j < (kidsUp l l.length k).length) : x = endL l k := by
  obtain ⟨h1, h2, h3, h4⟩ := hs
  have hb := endL_bounds hk
  by_cases e : x = endL l k
  · exact e
  · have := (kids_at (n := l.length) (by omega) (h4.resolve_left e)).1
    omega
theorem movedTo_app (l : List It) {f k : Nat} (h : f ≤ k) (by_ : Int) : ∀ m, movedTo l f k by_ ++ movedTo l k (k + m) by_ = movedTo l f (k + m) by_
  | 0 => by
    have e : movedTo l k (k + 0) by_ = [] := by simp [movedTo]
    rw [e, List.append_nil, Nat.add_zero]
  | m + 1 => by
    rw [show k + (m + 1) = (k + m) + 1 from by omega, movedTo_step l (by omega), movedTo_step l (by omega), ← List.append_assoc, movedTo_app l h by_ m]
theorem movedTo_join (l : List It) {f k e : Nat} (h : f ≤ k) (h2 : k ≤ e) (by_ : Int) : movedTo l f k by_ ++ movedTo l k e by_ = movedTo l f e by_ := by
  have := movedTo_app l h by_ (e - k)
  rwa [show k + (e - k) = e from by omega] at this
end Go.Proofs.YticpebpicdboaaaGreatDoor
