/- The program's NumberOf: strconv.ParseInt. -/
import Derived.Test.YtpafknmfacgccaaDoorPNumText
import Derived.Test.YtpafknmfacgccaaDoorNumberOf
import Derived.Lib.ParseIntBCases
namespace Go.Proofs.YtpafknmfacgccaaDoor
open Go.ChangeShapes Go.WideShapes Go.ChangeAt Go.RowKit Go.Shelf
set_option linter.unusedVariables false

theorem parseM_dig (M acc x : Nat) (r : List UInt8) (hx : x < 10) (ha : acc < 1000) (hM : 10000 ≤ M) : Lib.parseUintM M acc (UInt8.ofNat (48 + x) :: r) = Lib.parseUintM M (acc * 10 + x) r := by
  have e : (UInt8.ofNat (48 + x)).toNat = 48 + x := by
    have hc : x = 0 ∨ x = 1 ∨ x = 2 ∨ x = 3 ∨ x = 4 ∨ x = 5 ∨ x = 6 ∨ x = 7 ∨ x = 8 ∨ x = 9 := by omega
    rcases hc with rfl | rfl | rfl | rfl | rfl | rfl | rfl | rfl | rfl | rfl <;> rfl
  rw [Lib.parseUintM, e, if_pos (by omega), if_neg (by omega), if_neg (by omega)]
  congr 1
  omega
theorem parseM_digT (M n : Nat) (hn : n < 1000) (hM : 10000 ≤ M) : Lib.parseUintM M 0 (digT n).data.toList = .ok n := by
  by_cases h : n < 10
  · rw [digT_small h, dig_data n h, parseM_dig M 0 n [] h (by omega) hM, Lib.parseUintM]
    simp
  · by_cases h2 : n / 10 < 10
    · rw [digT_data h, digT_small h2, dig_data _ h2, List.singleton_append, parseM_dig M _ _ _ h2 (by omega) hM, parseM_dig M _ _ _ (by omega) (by omega) hM, Lib.parseUintM]
      congr 1
      omega
    · have h3 : n / 10 / 10 < 10 := by omega
      rw [digT_data h, digT_data h2, digT_small h3, dig_data _ h3, List.append_assoc, List.singleton_append, List.singleton_append, parseM_dig M _ _ _ h3 (by omega) hM, parseM_dig M _ _ _ (by omega) (by omega) hM, parseM_dig M _ _ _ (by omega) (by omega) hM, Lib.parseUintM]
      congr 1
      omega
theorem parse_numT (m : Int) (h1 : -999 ≤ m) (h2 : m ≤ 999) : Lib.parseIntB 64 (numT m).data.toList = .ok m := by
  have hM : 10000 ≤ 2 ^ 64 - 1 := by decide
  have hd := parseM_digT (2 ^ 64 - 1) m.natAbs (by omega) hM
  obtain ⟨c, t, e, hc⟩ := digT_head m.natAbs
  have hU : Lib.parseUintB 64 (digT m.natAbs).data.toList = .ok m.natAbs := by
    unfold Lib.parseUintB
    rw [if_neg (by rw [e]; simp), hd]
  have hall := (numF_dig m.natAbs).1
  by_cases hm : m < 0
  · have hT : (numT m).data.toList = 45 :: (digT m.natAbs).data.toList := by
      unfold numT
      rw [if_pos hm, ByteArray.data_append, Array.toList_append]
      rfl
    rw [hT, Lib.parseIntB_minus, hU]
    have h63 : ¬ (2 ^ (64 - 1) < m.natAbs) := by
      have : (2 : Nat) ^ (64 - 1) = 9223372036854775808 := by decide
      omega
    show (if 2 ^ (64 - 1) < m.natAbs then _ else _) = _
    rw [if_neg h63]
    congr 1
    omega
  · have hT : (numT m).data.toList = (digT m.natAbs).data.toList := by unfold numT; rw [if_neg hm]
    have h43 : c ≠ 43 := by
      rintro rfl
      rw [e, List.all_cons, Bool.and_eq_true] at hall
      exact absurd hall.1 (by decide)
    have n43 : c.toNat ≠ 43 := fun x => h43 (UInt8.toNat_inj.1 x)
    have n45 : c.toNat ≠ 45 := fun x => hc (UInt8.toNat_inj.1 x)
    rw [hT, e, Lib.parseIntB_plain 64 c t n43 n45, ← e, hU]
    have h63 : ¬ (2 ^ (64 - 1) ≤ m.natAbs) := by
      have : (2 : Nat) ^ (64 - 1) = 9223372036854775808 := by decide
      omega
    show (if 2 ^ (64 - 1) ≤ m.natAbs then _ else _) = _
    rw [if_neg h63]
    congr 1
    omega
/-- a variable of the library's holds an error -/
structure SynE (w : World) (a : Addr) : Prop where
  lt : 1 < w.heap.size
  cell : w.cell? ⟨1, 0, none⟩ = some (.iface 149 (.pointer (some a)))
structure RngE (w : World) (a : Addr) : Prop where
  lt : 2 < w.heap.size
  cell : w.cell? ⟨2, 0, none⟩ = some (.iface 149 (.pointer (some a)))
/-- two variables of the library's hold errors -/
structure NumErrs (w : World) (a b : Addr) : Prop where
  lt1 : 1 < w.heap.size
  cell1 : w.cell? ⟨1, 0, none⟩ = some (.iface 149 (.pointer (some a)))
  lt2 : 2 < w.heap.size
  cell2 : w.cell? ⟨2, 0, none⟩ = some (.iface 149 (.pointer (some b)))
theorem NumErrs.below {w w' : World} {a b : Addr} (h : NumErrs w a b) (hb : Below w.heap.size w w') : NumErrs w' a b :=
  ⟨Nat.lt_of_lt_of_le h.lt1 hb.size, (hb.cell (p := ⟨1, 0, none⟩) h.lt1).trans h.cell1, Nat.lt_of_lt_of_le h.lt2 hb.size, (hb.cell (p := ⟨2, 0, none⟩) h.lt2).trans h.cell2⟩
theorem parseInt_any (s : ByteArray) (hs : s.size ≤ 281474976710656) (w : World) (a b : Addr) (h : NumErrs w a b) :
    Calls Tryd.prog 25 #[.string s, .int .i64 10, .int .i64 64] w fun e w' => (∃ (m : Int) (v : Value), e = .returned (.tuple #[.int .i64 m, v]) ∧ ((v = .nilIface ∧ Lib.parseIntB 64 s.data.toList = .ok m) ∨ ((∃ T p, v = .iface T p) ∧ ∀ m, Lib.parseIntB 64 s.data.toList ≠ .ok m))) ∧ Below w.heap.size w w' := by
  cases hp : Lib.parseIntB 64 s.data.toList with
  | ok m =>
    refine (Tryd.strconv_ParseInt_10_at64_ok s (by omega) m hp w).mono ?_
    rintro e w' ⟨rfl, hw⟩
    refine ⟨⟨m, _, rfl, .inl ⟨rfl, rfl⟩⟩, ?_⟩
    rcases hw with rfl | ⟨t, rfl⟩
    · exact Below.refl _ _
    · exact Lib.bytesWorld_below _ _ _
  | «syntax» =>
    refine (Tryd.strconv_ParseInt_10_at64_syntax s hs hp _ w h.cell1 (.inr ⟨_, _, rfl⟩)).mono ?_
    rintro e w' ⟨N, rfl, _, _, hb⟩
    exact ⟨⟨_, _, rfl, .inr ⟨⟨_, _, rfl⟩, fun m e => by cases e⟩⟩, hb⟩
  | range =>
    refine (Tryd.strconv_ParseInt_10_at64_range s hs hp _ w h.cell2 (.inr ⟨_, _, rfl⟩)).mono ?_
    rintro e w' ⟨N, rfl, _, _, hb⟩
    exact ⟨⟨_, _, rfl, .inr ⟨⟨_, _, rfl⟩, fun m e => by cases e⟩⟩, hb⟩

theorem numOf_bad {l : List UInt8} (h : ∀ m, Lib.parseIntB 64 l ≠ .ok m) : numOf l = none := by
  cases ho : numOf l with
  | none => rfl
  | some m =>
    obtain ⟨h1, h2, h3⟩ := numOf_some ho
    exact absurd (h3 ▸ parse_numT m h1 h2) (h m)
theorem numText_empty {n : Int} (h : inB n (-999) 999 = false) : (numText n).data.toList = [] := by unfold numText; rw [h]; rfl
theorem numOf_ok {l : List UInt8} {m : Int} (h : Lib.parseIntB 64 l = .ok m) : numOf l = if (numText m).data.toList = l then some m else none := by
  cases hm : inB m (-999) 999
  · rw [numText_empty hm]
    have hne : ¬ ([] : List UInt8) = l := by
      rintro rfl
      cases h
    rw [if_neg hne]
    cases ho : numOf l with
    | none => rfl
    | some k =>
      obtain ⟨h1, h2, h3⟩ := numOf_some ho
      have h4 := parse_numT k h1 h2
      rw [h3, h] at h4
      injection h4 with h4
      subst h4
      simp [inB] at hm
      omega
  · have hb : -999 ≤ m ∧ m ≤ 999 := by simpa [inB] using hm
    have e : numText m = numT m := by unfold numText; rw [hm]; rfl
    rw [e]
    by_cases hl : (numT m).data.toList = l
    · rw [if_pos hl, ← hl]
      exact numOf_text m hb.1 hb.2
    · rw [if_neg hl]
      cases ho : numOf l with
      | none => rfl
      | some k =>
        obtain ⟨h1, h2, h3⟩ := numOf_some ho
        have h4 := parse_numT k h1 h2
        rw [h3, h] at h4
        injection h4 with h4
        subst h4
        exact absurd h3 hl

theorem field_text (c : Int) (t : ByteArray) (W : World) : (Instr.field 26 (.agg #[.int .i64 c, .string t]) 1).run Tryd.prog W = .ok (.string t) W := by kernel_rfl
set_option maxRecDepth 100000 in
set_option maxHeartbeats 1600000 in
theorem implNumberOf_any (s : ByteArray) (hs : s.size ≤ 281474976710656) (w : World) (a b : Addr) (hE : NumErrs w a b) (hT : Pows w) :
    Calls Tryd.prog 11 #[.string s] w (Res2 w (numOfCode s.data.toList) (numOfVal s.data.toList)) := by
  have KP := Lib.hid (fun W h => parseInt_any s hs W a b h)
  have KN := Lib.hid (fun (m : Int) W (h : Pows W) => implNumberText_any m W h)
  have HE := Lib.hid (fun o => hE.below (below1 w o))
  have HE0 := Lib.hid hE
  have HT := Lib.hid hT
  have hcd : ∀ m, Lib.parseIntB 64 s.data.toList = .ok m → numOfCode s.data.toList = (if (numText m).toList == s.toList then 0 else 5) ∧ numOfVal s.data.toList = (if (numText m).toList == s.toList then m else 0) := by
    intro m hm
    have ho := numOf_ok hm
    unfold numOfCode numOfVal
    rw [ho, ByteArray.toList_eq, ByteArray.toList_eq]
    by_cases hx : (numText m).data.toList = s.data.toList
    · have hb : ((numText m).data.toList == s.data.toList) = true := beq_iff_eq.2 hx
      rw [if_pos hx, hb]
      exact ⟨rfl, rfl⟩
    · have hb : ((numText m).data.toList == s.data.toList) = false := beq_eq_false_iff_ne.2 hx
      rw [if_neg hx, hb]
      exact ⟨rfl, rfl⟩
  have hbad : (∀ m, Lib.parseIntB 64 s.data.toList ≠ .ok m) → numOfCode s.data.toList = 5 ∧ numOfVal s.data.toList = 0 := by
    intro h
    have ho := numOf_bad h
    unfold numOfCode numOfVal
    rw [ho]
    exact ⟨rfl, rfl⟩
  have HC := Lib.hid hcd
  have HBD := Lib.hid hbad
  generalize hl : numOfCode s.data.toList = cd at HC HBD ⊢
  generalize hv : numOfVal s.data.toList = vx at HC HBD ⊢
  clear hl hv hcd hbad hE hT hs
  unfold TxtRes at KN
  unfold Res2
  go_enter Tryd.func11, Tryd.ntmps11
  go_wp2_with fail
  refine (KP.out _ (HE.out _)).mono ?_
  rintro e w1 ⟨⟨m, v, rfl, hmv⟩, hb1⟩
  have HT1 := Lib.hid (HT.out.below (below_then (below1 w _) hb1))
  have B1 := Lib.hid hb1
  rcases hmv with ⟨rfl, hm⟩ | ⟨⟨T, p, rfl⟩, hm⟩
  · have E := HC.out m hm
    have KM := Lib.hid (fun W => KN.out m W)
    clear hm hb1 KN HC HBD KP
    generalize numText m = tx at E KM
    generalize numCode m = nc at KM
    have E1 := Lib.hid E
    have hfl := fun W => field_text nc tx W
    clear E
    go_wp2_with fail
    refine (KM.out _ HT1.out).mono ?_
    rintro e w2 ⟨rfl, hb2⟩
    have hb := below_then B1.out hb2
    obtain ⟨hc, hf⟩ := bcell hb
    have hz := hb.size
    simp at hz
    have HB := Lib.hid hb
    clear hb2 hb
    obtain ⟨e1, e2⟩ := E1.out
    cases hq : tx.toList == s.toList
    · rw [hq] at e1 e2
      have E := Lib.hid (And.intro e1 e2)
      clear e1 e2 E1
      go_wp2
      exact bodyPost_ret (v := .agg #[.int .i64 5, .int .i64 0]) (by simp [results, Tryd.results11, go_sem, hc]) rfl ⟨by rw [E.out.1, E.out.2]; rfl, (((below1 w _).trans (HB.out.mono (by simp))).setCell (by simp) _).setCell (by simp) _⟩
    · rw [hq] at e1 e2
      have E := Lib.hid (And.intro e1 e2)
      clear e1 e2
      go_wp2
      exact bodyPost_ret (v := .agg #[.int .i64 0, .int .i64 m]) (by simp [results, Tryd.results11, go_sem, hc]) rfl ⟨by rw [E.out.1, E.out.2]; rfl, (((below1 w _).trans (HB.out.mono (by simp))).setCell (by simp) _).setCell (by simp) _⟩
  · have E := Lib.hid (HBD.out hm)
    obtain ⟨hc, hf⟩ := bcell hb1
    have hz := hb1.size
    simp at hz
    clear hm hb1
    go_wp2
    exact bodyPost_ret (v := .agg #[.int .i64 5, .int .i64 0]) (by simp [results, Tryd.results11, go_sem, hc]) rfl ⟨by rw [E.out.1, E.out.2], (((below1 w _).trans (B1.out.mono (by simp))).setCell (by simp) _).setCell (by simp) _⟩
end Go.Proofs.YtpafknmfacgccaaDoor
