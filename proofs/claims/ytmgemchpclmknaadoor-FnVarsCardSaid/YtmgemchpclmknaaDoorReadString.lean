/- Contracts of stringAhead, l2Text and the two ReadStrings. -/
import Derived.Test.YtmgemchpclmknaaDoorImplVar
import Derived.Test.YtmgemchpclmknaaDoorPutString
namespace Go.Proofs.YtmgemchpclmknaaDoor
open Go.ChangeShapes Go.WideShapes Go.ChangeAt Go.RowKit
set_option linter.unusedVariables false

/-- the text that bytes tell behind their number -/
def sbody (xs : List Int) : ByteArray := strOfNums ((xs.drop (vreadK xs)).take (vreadN xs).toNat)
def sOk (xs : List Int) : Bool := vreadOk xs && (decide (vreadN xs ≤ (xs.length : Int) - (vreadK xs : Int)) && decide (textFault (sbody xs).data.toList = 0))
def stxt (xs : List Int) : ByteArray := if sOk xs then sbody xs else ⟨#[]⟩
def ssz (xs : List Int) : Int := if sOk xs then (vreadK xs : Int) + vreadN xs else 0
theorem s_none {xs : List Int} (h : sOk xs = false) : stxt xs = ⟨#[]⟩ ∧ ssz xs = 0 := by unfold stxt ssz; simp [h]
theorem s_some {xs : List Int} (h : sOk xs = true) : stxt xs = sbody xs ∧ ssz xs = (vreadK xs : Int) + vreadN xs := by unfold stxt ssz; simp [h]
/-- what stringAhead answers -/
def AheadStr (xs : List Int) (sa : Addr) (w : World) (e : Ending) (w' : World) : Prop :=
  e = .returned (.tuple #[.string (stxt xs), .int .i64 (ssz xs), errOf sa (sOk xs)]) ∧ Below w.heap.size w w'
theorem str_eq {a b : ByteArray} (h : a = b) : Value.string a = .string b := by rw [h]
/-- a piece of a row -/
theorem Row.piece {w : World} {b o n c : Nat} {xs : List Int} (h : Row w .u8 (.slice (some ⟨b, o, none⟩) n c) xs) (k m : Nat) (hk : k + m ≤ n) : Row w .u8 (.slice (some ⟨b, o + k, none⟩) m (c - k)) ((xs.drop k).take m) := by
  rcases h with ⟨hv, _⟩ | ⟨b', o', cap, hv, h1, h2, h3, h4⟩
  · cases hv
  · simp only [Value.slice.injEq, Option.some.injEq, Addr.mk.injEq] at hv
    obtain ⟨⟨rfl, rfl, _⟩, hn, rfl⟩ := hv
    have hl : ((xs.drop k).take m).length = m := by simp; omega
    refine .inr ⟨b, o + k, c - k, by rw [hl], by rw [hl]; omega, by unfold maxLen at *; omega, h3, fun i hi => ?_⟩
    rw [hl] at hi
    have := h4 (k + i) (by omega)
    rw [show o + k + i = o + (k + i) by omega, this]
    simp [List.getD_eq_getElem?_getD, hi]
theorem Row.empty {w : World} {b o c : Nat} (hm : c ≤ maxLen) (hlt : b < w.heap.size) : Row w .u8 (.slice (some ⟨b, o, none⟩) 0 c) [] := .inr ⟨b, o, c, rfl, by simp, hm, hlt, fun i hi => by simp at hi⟩
theorem sbody_size (xs : List Int) (h : vreadN xs ≤ (xs.length : Int) - (vreadK xs : Int)) : ((sbody xs).size : Int) = vreadN xs := by
  have h0 := (vreadN_bd xs).1
  unfold sbody strOfNums
  simp [ByteArray.size]
  omega

set_option maxRecDepth 100000 in
set_option maxHeartbeats 1600000 in
theorem stringAhead_bad (a : Option Addr) (n c : Nat) (xs : List Int) (w : World) (sa : Addr) (hs : Sent w sa) (hn : n = xs.length) (h : Row w .u8 (.slice a n c) xs) (hby : ∀ i, 0 ≤ xs.getD i 0 ∧ xs.getD i 0 ≤ 255) (hk : vreadOk xs = false) :
    Calls Tryd.prog 78 #[.slice a n c] w (AheadStr xs sa w) := by
  have K := Lib.hid (varAhead_any a n c xs w sa hs hn h hby)
  have HS := Lib.hid hs
  have HN : Hid (sOk xs = false) := Lib.hid (by unfold sOk; rw [hk]; rfl)
  unfold AheadRes errOf at K
  rw [hk] at K
  simp only [Bool.false_eq_true, if_false] at K
  generalize vreadK xs = k at K
  generalize vreadN xs = v at K
  clear hn h hby hs hk
  go_enter Tryd.func78, Tryd.ntmps78
  go_wp2_with fail
  refine K.out.mono ?_
  rintro e w1 ⟨rfl, hb⟩
  have hs1 := HS.out.kept hb
  have hsc := hs1.cell
  have hsl := hs1.lt
  have HB := Lib.hid hb
  clear hs1 hb
  go_wp2_with fail
  refine (is_same _ _).mono ?_
  rintro e w' ⟨rfl, rfl⟩
  go_wp2
  go_ret3
  obtain ⟨e1, e2⟩ := s_none HN.out
  exact ⟨ret3 (str_eq (by rw [e1])) (int_eq (by rw [e2])) (by rw [HN.out]; rfl), HB.out⟩

set_option maxRecDepth 100000 in
set_option maxHeartbeats 3200000 in
theorem stringAhead_ok (b o n c : Nat) (xs : List Int) (w : World) (sa : Addr) (hs : Sent w sa) (hT : Tabs w) (hn : n = xs.length) (h : Row w .u8 (.slice (some ⟨b, o, none⟩) n c) xs) (hby : ∀ i, 0 ≤ xs.getD i 0 ∧ xs.getD i 0 ≤ 255) (hk : vreadOk xs = true) :
    Calls Tryd.prog 78 #[.slice (some ⟨b, o, none⟩) n c] w (AheadStr xs sa w) := by
  have K := Lib.hid (varAhead_any (some ⟨b, o, none⟩) n c xs w sa hs hn h hby)
  have HS := Lib.hid hs
  have HT := Lib.hid hT
  have HR := Lib.hid h
  have hkn := (vreadK_le xs).1
  rw [← hn] at hkn
  have hk9 := (vreadK_le xs).2
  have hv0 := (vreadN_bd xs).1
  have hv1 := (vreadN_bd xs).2
  have hk1 : 1 ≤ vreadK xs := by unfold vreadK; rw [hk]; simp
  have hcm : n ≤ c ∧ c ≤ maxLen ∧ b < w.heap.size := by
    rcases h with ⟨hv, _⟩ | ⟨b', o', cap, hv, h1, h2, h3, h4⟩
    · cases hv
    · simp only [Value.slice.injEq, Option.some.injEq, Addr.mk.injEq] at hv
      obtain ⟨⟨rfl, rfl, _⟩, hn', rfl⟩ := hv
      exact ⟨by omega, h2, h3⟩
  obtain ⟨hnc, hcm, hbw⟩ := hcm
  have HCM := Lib.hid hcm
  unfold maxLen at hcm
  unfold AheadRes errOf at K
  rw [hk] at K
  simp only [if_true] at K
  have HBD := Lib.hid (sbody_size xs)
  rw [← hn] at HBD
  have HOK : Hid (sOk xs = (decide (vreadN xs ≤ (n : Int) - (vreadK xs : Int)) && decide (textFault (sbody xs).data.toList = 0))) := Lib.hid (by unfold sOk; rw [hk, hn]; simp)
  have HSB : Hid (sbody xs = strOfNums ((xs.drop (vreadK xs)).take (vreadN xs).toNat)) := Lib.hid rfl
  have HSOME := Lib.hid (s_some (xs := xs))
  clear hn h hby hs hk hT
  generalize vreadK xs = k at *
  generalize vreadN xs = v at *
  obtain ⟨N, rfl⟩ : ∃ N : Nat, v = N := ⟨v.toNat, by omega⟩
  rw [Int.toNat_natCast] at HSB
  have HV1 := Lib.hid hv1
  clear hv1 hv0
  by_cases hlen : (N : Int) ≤ (n : Int) - (k : Int)
  · have hNn : N ≤ n := by omega
    have hkN : k + N ≤ n := by omega
    have KT := Lib.hid (fun (W : World) (hW : Below w.heap.size w W) => implTextFault_any (sbody xs) (by have := HBD.out hlen; have := HCM.out; omega) W (tabs_kept HT.out hW))
    have HCV : Hid (∀ W, Below w.heap.size w W → (convert 22 9 (.slice (some ⟨b, o + k, none⟩) N (c - k))).run Tryd.prog W = .ok (.string (sbody xs)) W) := Lib.hid (fun W hW => by
      rw [HSB.out]
      exact conv_row (P := Tryd.prog) W Tryd.underlying22 Tryd.underlying5 Tryd.underlying9 ((HR.out.below hW).piece k N (by omega)))
    rw [decide_eq_true hlen, Bool.true_and] at HOK
    generalize hTX : sbody xs = T at *
    have HTX := Lib.hid hTX
    clear hTX
    generalize textFault T.data.toList = t at *
    by_cases hkc : k < c
    · by_cases ht : t = 0
      · subst ht
        rw [decide_eq_true rfl] at HOK
        go_enter Tryd.func78, Tryd.ntmps78
        go_wp2_with fail
        refine K.out.mono ?_
        rintro e w1 ⟨rfl, hb⟩
        have hs1 := HS.out.kept hb
        have hsc := hs1.cell
        have hsl := hs1.lt
        have HB := Lib.hid hb
        clear hs1 hb
        go_wp2_with fail
        refine (is_nil _ _).mono ?_
        rintro e w' ⟨rfl, rfl⟩
        have hcv := HCV.out _ HB.out
        go_wp2_with fail
        refine (KT.out _ HB.out).mono ?_
        rintro e w2 ⟨rfl, hb2⟩
        have hs2 := HS.out.kept (below_then HB.out hb2)
        have hsc := hs2.cell
        have hsl := hs2.lt
        have HB2 := Lib.hid (below_then HB.out hb2)
        clear hs2 hb2
        go_wp2
        go_ret3
        obtain ⟨e1, e2⟩ := HSOME.out HOK.out
        exact ⟨ret3 (str_eq e1.symm) (int_eq (by rw [e2]; first | done | simp)) (by rw [HOK.out]; rfl), HB2.out⟩
      · rw [decide_eq_false ht] at HOK
        have h0 : (t == 0) = false := by simpa using ht
        have h1 : (t != 0) = true := by simpa using ht
        clear ht
        go_enter Tryd.func78, Tryd.ntmps78
        go_wp2_with fail
        refine K.out.mono ?_
        rintro e w1 ⟨rfl, hb⟩
        have hs1 := HS.out.kept hb
        have hsc := hs1.cell
        have hsl := hs1.lt
        have HB := Lib.hid hb
        clear hs1 hb
        go_wp2_with fail
        refine (is_nil _ _).mono ?_
        rintro e w' ⟨rfl, rfl⟩
        have hcv := HCV.out _ HB.out
        go_wp2_with fail
        refine (KT.out _ HB.out).mono ?_
        rintro e w2 ⟨rfl, hb2⟩
        have hs2 := HS.out.kept (below_then HB.out hb2)
        have hsc := hs2.cell
        have hsl := hs2.lt
        have HB2 := Lib.hid (below_then HB.out hb2)
        clear hs2 hb2
        go_wp2
        go_quiet (fail)
        go_wp2
        go_ret3
        obtain ⟨e1, e2⟩ := s_none HOK.out
        exact ⟨ret3 (str_eq (by rw [e1])) (int_eq (by rw [e2])) (by rw [HOK.out]; rfl), below_drewN HB2.out _⟩
    · obtain rfl : c = k := by omega
      obtain rfl : N = 0 := by omega
      have HCV2 : Hid (∀ W, Below w.heap.size w W → (convert 22 9 (.slice (some ⟨b, o, none⟩) 0 0)).run Tryd.prog W = .ok (.string T) W) := Lib.hid (fun W hW => by
        rw [HSB.out]
        exact conv_row (P := Tryd.prog) W Tryd.underlying22 Tryd.underlying5 Tryd.underlying9 (Row.empty (by decide) (Nat.lt_of_lt_of_le hbw hW.size)))
      by_cases ht : t = 0
      · subst ht
        rw [decide_eq_true rfl] at HOK
        go_enter Tryd.func78, Tryd.ntmps78
        go_wp2_with fail
        refine K.out.mono ?_
        rintro e w1 ⟨rfl, hb⟩
        have hs1 := HS.out.kept hb
        have hsc := hs1.cell
        have hsl := hs1.lt
        have HB := Lib.hid hb
        clear hs1 hb
        go_wp2_with fail
        refine (is_nil _ _).mono ?_
        rintro e w' ⟨rfl, rfl⟩
        have hcv := HCV2.out _ HB.out
        go_wp2_with fail
        refine (KT.out _ HB.out).mono ?_
        rintro e w2 ⟨rfl, hb2⟩
        have hs2 := HS.out.kept (below_then HB.out hb2)
        have hsc := hs2.cell
        have hsl := hs2.lt
        have HB2 := Lib.hid (below_then HB.out hb2)
        clear hs2 hb2
        go_wp2
        go_ret3
        obtain ⟨e1, e2⟩ := HSOME.out HOK.out
        exact ⟨ret3 (str_eq e1.symm) (int_eq (by rw [e2]; first | done | simp)) (by rw [HOK.out]; rfl), HB2.out⟩
      · rw [decide_eq_false ht] at HOK
        have h0 : (t == 0) = false := by simpa using ht
        have h1 : (t != 0) = true := by simpa using ht
        clear ht
        go_enter Tryd.func78, Tryd.ntmps78
        go_wp2_with fail
        refine K.out.mono ?_
        rintro e w1 ⟨rfl, hb⟩
        have hs1 := HS.out.kept hb
        have hsc := hs1.cell
        have hsl := hs1.lt
        have HB := Lib.hid hb
        clear hs1 hb
        go_wp2_with fail
        refine (is_nil _ _).mono ?_
        rintro e w' ⟨rfl, rfl⟩
        have hcv := HCV2.out _ HB.out
        go_wp2_with fail
        refine (KT.out _ HB.out).mono ?_
        rintro e w2 ⟨rfl, hb2⟩
        have hs2 := HS.out.kept (below_then HB.out hb2)
        have hsc := hs2.cell
        have hsl := hs2.lt
        have HB2 := Lib.hid (below_then HB.out hb2)
        clear hs2 hb2
        go_wp2
        go_quiet (fail)
        go_wp2
        go_ret3
        obtain ⟨e1, e2⟩ := s_none HOK.out
        exact ⟨ret3 (str_eq (by rw [e1])) (int_eq (by rw [e2])) (by rw [HOK.out]; rfl), below_drewN HB2.out _⟩
  · rw [decide_eq_false hlen, Bool.false_and] at HOK
    have hlen' : (n : Int) - (k : Int) < (N : Int) := by omega
    have hv9 : (N : Int) ≤ 9223372036854775807 := HV1.out
    clear hlen
    go_enter Tryd.func78, Tryd.ntmps78
    go_wp2_with fail
    refine K.out.mono ?_
    rintro e w1 ⟨rfl, hb⟩
    have hs1 := HS.out.kept hb
    have hsc := hs1.cell
    have hsl := hs1.lt
    have HB := Lib.hid hb
    clear hs1 hb
    go_wp2_with fail
    refine (is_nil _ _).mono ?_
    rintro e w' ⟨rfl, rfl⟩
    go_wp2
    go_quiet (fail)
    go_wp2
    go_ret3
    obtain ⟨e1, e2⟩ := s_none HOK.out
    exact ⟨ret3 (str_eq (by rw [e1])) (int_eq (by rw [e2])) (by rw [HOK.out]; rfl), below_drewN HB.out _⟩

/-- what l2Text answers -/
def TextRes (xs : List Int) (w : World) (e : Ending) (w' : World) : Prop :=
  e = .returned (.tuple #[.string (stxt xs), .int .i64 (ssz xs)]) ∧ Below w.heap.size w w'

set_option maxRecDepth 100000 in
set_option maxHeartbeats 1600000 in
theorem l2Text_bad (a : Option Addr) (n c : Nat) (xs : List Int) (w : World) (hn : n = xs.length) (h : Row w .u8 (.slice a n c) xs) (hby : ∀ i, 0 ≤ xs.getD i 0 ∧ xs.getD i 0 ≤ 255) (hk : vreadOk xs = false) :
    Calls Tryd.prog 80 #[.slice a n c] w (TextRes xs w) := by
  have K := Lib.hid (l2Read_any a n c xs w hn h hby)
  have HOK : Hid (sOk xs = false) := Lib.hid (by unfold sOk; rw [hk]; rfl)
  unfold ReadRes at K
  obtain ⟨e1, e2⟩ := read_none hk
  rw [e1, e2] at K
  clear hn h hby hk e1 e2
  go_enter Tryd.func80, Tryd.ntmps80
  go_wp2_with fail
  refine K.out.mono ?_
  rintro e w1 ⟨rfl, hb⟩
  have HB := Lib.hid hb
  clear hb
  go_wp2
  go_ret2
  obtain ⟨e1, e2⟩ := s_none HOK.out
  exact ⟨ret2 (str_eq (by rw [e1])) (int_eq (by rw [e2])), HB.out⟩

set_option maxRecDepth 100000 in
set_option maxHeartbeats 3200000 in
theorem l2Text_ok (b o n c : Nat) (xs : List Int) (w : World) (hn : n = xs.length) (h : Row w .u8 (.slice (some ⟨b, o, none⟩) n c) xs) (hby : ∀ i, 0 ≤ xs.getD i 0 ∧ xs.getD i 0 ≤ 255) (hk : vreadOk xs = true) :
    Calls Tryd.prog 80 #[.slice (some ⟨b, o, none⟩) n c] w (TextRes xs w) := by
  have K := Lib.hid (l2Read_any (some ⟨b, o, none⟩) n c xs w hn h hby)
  unfold ReadRes at K
  have HR := Lib.hid h
  have hkn := (vreadK_le xs).1
  rw [← hn] at hkn
  have hk9 := (vreadK_le xs).2
  have hv0 := (vreadN_bd xs).1
  have hv1 := (vreadN_bd xs).2
  have hk1 : 1 ≤ vreadK xs := by unfold vreadK; rw [hk]; simp
  have hcm : n ≤ c ∧ c ≤ maxLen ∧ b < w.heap.size := by
    rcases h with ⟨hv, _⟩ | ⟨b', o', cap, hv, h1, h2, h3, h4⟩
    · cases hv
    · simp only [Value.slice.injEq, Option.some.injEq, Addr.mk.injEq] at hv
      obtain ⟨⟨rfl, rfl, _⟩, hn', rfl⟩ := hv
      exact ⟨by omega, h2, h3⟩
  obtain ⟨hnc, hcm, hbw⟩ := hcm
  have HCM := Lib.hid hcm
  unfold maxLen at hcm
  have HBD := Lib.hid (sbody_size xs)
  rw [← hn] at HBD
  have HOK : Hid (sOk xs = (decide (vreadN xs ≤ (n : Int) - (vreadK xs : Int)) && decide (textFault (sbody xs).data.toList = 0))) := Lib.hid (by unfold sOk; rw [hk, hn]; simp)
  have HSB : Hid (sbody xs = strOfNums ((xs.drop (vreadK xs)).take (vreadN xs).toNat)) := Lib.hid rfl
  have HSOME := Lib.hid (s_some (xs := xs))
  clear hn h hby hk
  generalize vreadK xs = k at *
  generalize vreadN xs = v at *
  obtain ⟨N, rfl⟩ : ∃ N : Nat, v = N := ⟨v.toNat, by omega⟩
  rw [Int.toNat_natCast] at HSB
  have HV1 := Lib.hid hv1
  clear hv1 hv0
  have hk0 : ((k : Int) == 0) = false := by rw [beq_eq_false_iff_ne]; omega
  by_cases hlen : (N : Int) ≤ (n : Int) - (k : Int)
  · rw [decide_eq_true hlen, Bool.true_and] at HOK
    by_cases h60 : (N : Int) ≤ 60
    · have hNn : N ≤ n := by omega
      have hkN : k + N ≤ n := by omega
      have KT := Lib.hid (fun (W : World) => specTextFault_any (sbody xs) (by have := HBD.out hlen; omega) W)
      have HCV : Hid (∀ W, Below w.heap.size w W → (convert 22 9 (.slice (some ⟨b, o + k, none⟩) N (c - k))).run Tryd.prog W = .ok (.string (sbody xs)) W) := Lib.hid (fun W hW => by
        rw [HSB.out]
        exact conv_row (P := Tryd.prog) W Tryd.underlying22 Tryd.underlying5 Tryd.underlying9 ((HR.out.below hW).piece k N (by omega)))
      generalize sbody xs = T at *
      generalize textFault T.data.toList = t at *
      by_cases hkc : k < c
      · by_cases ht : t = 0
        · subst ht
          rw [decide_eq_true rfl] at HOK
          go_enter Tryd.func80, Tryd.ntmps80
          go_wp2_with fail
          refine K.out.mono ?_
          rintro e w1 ⟨rfl, hb⟩
          have HB := Lib.hid hb
          clear hb
          have hcv := HCV.out _ HB.out
          go_wp2_with fail
          refine (KT.out _).mono ?_
          rintro e w2 ⟨rfl, hb2⟩
          have HB2 := Lib.hid (below_then HB.out hb2)
          clear hb2
          go_wp2
          go_ret2
          obtain ⟨e1, e2⟩ := HSOME.out HOK.out
          exact ⟨ret2 (str_eq e1.symm) (int_eq (by rw [e2]; first | done | simp)), HB2.out⟩
        · rw [decide_eq_false ht] at HOK
          have h0 : (t == 0) = false := by simpa using ht
          have h1 : (t != 0) = true := by simpa using ht
          clear ht
          go_enter Tryd.func80, Tryd.ntmps80
          go_wp2_with fail
          refine K.out.mono ?_
          rintro e w1 ⟨rfl, hb⟩
          have HB := Lib.hid hb
          clear hb
          have hcv := HCV.out _ HB.out
          go_wp2_with fail
          refine (KT.out _).mono ?_
          rintro e w2 ⟨rfl, hb2⟩
          have HB2 := Lib.hid (below_then HB.out hb2)
          clear hb2
          go_wp2
          go_ret2
          obtain ⟨e1, e2⟩ := s_none HOK.out
          exact ⟨ret2 (str_eq (by rw [e1])) (int_eq (by rw [e2])), HB2.out⟩
      · obtain rfl : c = k := by omega
        obtain rfl : N = 0 := by omega
        have HCV2 : Hid (∀ W, Below w.heap.size w W → (convert 22 9 (.slice (some ⟨b, o, none⟩) 0 0)).run Tryd.prog W = .ok (.string T) W) := Lib.hid (fun W hW => by
          rw [HSB.out]
          exact conv_row (P := Tryd.prog) W Tryd.underlying22 Tryd.underlying5 Tryd.underlying9 (Row.empty (by decide) (Nat.lt_of_lt_of_le hbw hW.size)))
        by_cases ht : t = 0
        · subst ht
          rw [decide_eq_true rfl] at HOK
          go_enter Tryd.func80, Tryd.ntmps80
          go_wp2_with fail
          refine K.out.mono ?_
          rintro e w1 ⟨rfl, hb⟩
          have HB := Lib.hid hb
          clear hb
          have hcv := HCV2.out _ HB.out
          go_wp2_with fail
          refine (KT.out _).mono ?_
          rintro e w2 ⟨rfl, hb2⟩
          have HB2 := Lib.hid (below_then HB.out hb2)
          clear hb2
          go_wp2
          go_ret2
          obtain ⟨e1, e2⟩ := HSOME.out HOK.out
          exact ⟨ret2 (str_eq e1.symm) (int_eq (by rw [e2]; first | done | simp)), HB2.out⟩
        · rw [decide_eq_false ht] at HOK
          have h0 : (t == 0) = false := by simpa using ht
          have h1 : (t != 0) = true := by simpa using ht
          clear ht
          go_enter Tryd.func80, Tryd.ntmps80
          go_wp2_with fail
          refine K.out.mono ?_
          rintro e w1 ⟨rfl, hb⟩
          have HB := Lib.hid hb
          clear hb
          have hcv := HCV2.out _ HB.out
          go_wp2_with fail
          refine (KT.out _).mono ?_
          rintro e w2 ⟨rfl, hb2⟩
          have HB2 := Lib.hid (below_then HB.out hb2)
          clear hb2
          go_wp2
          go_ret2
          obtain ⟨e1, e2⟩ := s_none HOK.out
          exact ⟨ret2 (str_eq (by rw [e1])) (int_eq (by rw [e2])), HB2.out⟩
    · have HOK2 : Hid (sOk xs = false) := Lib.hid (by
        rw [HOK.out, decide_eq_false_iff_not]
        intro hf
        have h1 := fault_size hf
        have h2 := HBD.out hlen
        have h3 : (sbody xs).data.toList.length = (sbody xs).size := by simp
        omega)
      clear HOK
      have HOK := HOK2
      have h60' : (60 : Int) < (N : Int) := by omega
      go_enter Tryd.func80, Tryd.ntmps80
      go_wp2_with fail
      refine K.out.mono ?_
      rintro e w1 ⟨rfl, hb⟩
      have HB := Lib.hid hb
      clear hb
      go_wp2
      go_ret2
      obtain ⟨e1, e2⟩ := s_none HOK.out
      exact ⟨ret2 (str_eq (by rw [e1])) (int_eq (by rw [e2])), HB.out⟩
  · rw [decide_eq_false hlen, Bool.false_and] at HOK
    have hlen' : (n : Int) - (k : Int) < (N : Int) := by omega
    have hv9 : (N : Int) ≤ 9223372036854775807 := HV1.out
    clear hlen
    by_cases h60 : (60 : Int) < (N : Int)
    · skip
      go_enter Tryd.func80, Tryd.ntmps80
      go_wp2_with fail
      refine K.out.mono ?_
      rintro e w1 ⟨rfl, hb⟩
      have HB := Lib.hid hb
      clear hb
      go_wp2
      go_ret2
      obtain ⟨e1, e2⟩ := s_none HOK.out
      exact ⟨ret2 (str_eq (by rw [e1])) (int_eq (by rw [e2])), HB.out⟩
    · skip
      go_enter Tryd.func80, Tryd.ntmps80
      go_wp2_with fail
      refine K.out.mono ?_
      rintro e w1 ⟨rfl, hb⟩
      have HB := Lib.hid hb
      clear hb
      go_wp2
      go_ret2
      obtain ⟨e1, e2⟩ := s_none HOK.out
      exact ⟨ret2 (str_eq (by rw [e1])) (int_eq (by rw [e2])), HB.out⟩
end Go.Proofs.YtmgemchpclmknaaDoor
