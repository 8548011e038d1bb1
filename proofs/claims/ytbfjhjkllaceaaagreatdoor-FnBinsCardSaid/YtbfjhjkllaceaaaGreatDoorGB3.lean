/- Texts laid together, part 3. -/
import Derived.Test.YtbfjhjkllaceaaaGreatDoorGB2
import Derived.Deep.RegionLaw
import Derived.Deep.RegionHeld3
import Derived.Maps.AppendAt
import Derived.RangeFuncBox

/- Contracts of the model's lists of points, and of its two faces. -/
namespace Go.Proofs.YtbfjhjkllaceaaaGreatDoor
open Go.ChangeShapes Go.WideShapes Go.ChangeAt Go.RowKit
set_option linter.unusedVariables false

theorem i64Info : (Tryz.prog.info? 2).map (fun i => (i.zero, i.size, i.bytes)) = some (some (.int .i64 0), 1, 8) := by kernel_rfl

/-- a list of points and whether it is so -/
def PtsRes (w : World) (l : List UInt8) (en : Ending) (w' : World) : Prop :=
  ∃ a n c, en = .returned (.tuple #[.slice a n c, .bool (pts l).isSome]) ∧ w'.ownsRow w.heap.size 2 1 (.slice a n c) n (((pts l).getD []).map (Value.int .i64)) ∧ Below w.heap.size w w'

theorem pts_bad {l u : List UInt8} {done : List Int} (h : strm l = done.map (fun p => (p, true)) ++ strm u) (hu : u ≠ []) (hb : badB u = true) : pts l = none := by
  unfold pts
  rw [h, strm_bad u hu hb]
  simp
theorem pts_end {l : List UInt8} {done : List Int} (h : strm l = done.map (fun p => (p, true)) ++ strm []) : pts l = some done := by
  unfold pts
  rw [h, strm_nil]
  simp [Function.comp_def]
theorem strm_next {l u : List UInt8} {done : List Int} (h : strm l = done.map (fun p => (p, true)) ++ strm u) (hu : u ≠ []) (hb : badB u = false) :
    strm l = (done ++ [((Lib.decodeL u).1 : Int)]).map (fun p => (p, true)) ++ strm (u.drop (Lib.decodeL u).2) := by
  rw [h, strm_step u hu hb]
  simp
theorem strm_done_le {l u : List UInt8} {done : List Int} (h : strm l = done.map (fun p => (p, true)) ++ strm u) : done.length ≤ l.length := by
  have h1 := strm_len l
  rw [h] at h1
  simp at h1
  omega

set_option maxHeartbeats 1600000 in
theorem l1Points_any (s : ByteArray) (hs : s.size ≤ 1048576) (w : World) :
    Calls Tryz.prog 109 #[.string s] w (PtsRes w s.data.toList) := by
  obtain ⟨i0, hi, hz0, hz1, hz2⟩ := info_parts i64Info
  go_enter Tryz.func109, Tryz.ntmps109
  go_wp2
  go_loopw [0, 4] (fun t v wr => ∃ (u : ByteArray) (done : List Int) (a : Option Addr) (n c : Nat), t = .string u ∧ u.size ≤ s.size ∧ v = .slice a n c ∧ strm s.data.toList = done.map (fun p => (p, true)) ++ strm u.data.toList ∧
      wr.ownsRow w.heap.size 2 1 (.slice a n c) n (done.map (Value.int .i64)) ∧ Below w.heap.size w wr)
    (fun t _ _ => strSize t)
  case atStart => exact ⟨s, [], _, _, _, rfl, Nat.le_refl _, rfl, rfl, lit_owns w _ .i64 [] 0 rfl (by decide), below1 _ _⟩
  case round =>
    obtain ⟨u, done, a, n, c, rfl, hu, rfl, hst, ho, hb⟩ := hrel
    have hnl := owns_length ho
    have hdl := strm_done_le hst
    rw [show s.data.toList.length = s.size by simp] at hdl
    have HST := Lib.hid hst
    have HO := Lib.hid ho
    have HB := Lib.hid hb
    have HNL := Lib.hid hnl
    have hn1 : n ≤ s.size := by omega
    clear hst ho hb hnl hdl
    by_cases hlt : 0 < u.size
    · have hne : u.data.toList ≠ [] := by
        intro h
        have := congrArg List.length h
        rw [show u.data.toList.length = u.size by simp] at this
        change u.size = 0 at this
        omega
      have hle := Lib.decodeL_le u.data.toList hne
      have hwd := Lib.decodeL_width u.data.toList
      rw [show u.data.toList.length = u.size by simp] at hle
      have HNE := Lib.hid hne
      clear hne
      cases hbd : badB u.data.toList
      · have HBD := Lib.hid hbd
        have e1 : firstPt u.data.toList = ((Lib.decodeL u.data.toList).1 : Int) := by simp [firstPt, hbd]
        have e2 : firstSz u.data.toList = (Lib.decodeL u.data.toList).2 := by simp [firstSz, hbd]
        have K := Lib.hid (l1First_any u (by unfold maxLen; omega) hlt)
        rw [e1, e2] at K
        clear e1 e2 hbd
        have HN := Lib.hid (strm_next HST.out HNE.out HBD.out)
        have hdrop : (u.extract (Lib.decodeL u.data.toList).2 u.size).data.toList = u.data.toList.drop (Lib.decodeL u.data.toList).2 := Lib.extract_to_end _ _
        generalize ((Lib.decodeL u.data.toList).1 : Int) = pt at K HN
        generalize (Lib.decodeL u.data.toList).2 = k at K HN hle hwd hdrop
        have HD := Lib.hid hdrop
        clear hdrop
        have hk0 : ((k : Int) == 0) = false := by rw [beq_eq_false_iff_ne]; omega
        have hk1 : (0 : Int) ≤ (k : Int) := by omega
        have hk2 : (k : Int) ≤ (u.size : Int) := by omega
        go_wp2_with fail
        refine (K.out _).mono ?_
        rintro e w1 ⟨rfl, hb1⟩
        have HO1 := Lib.hid (owns_below HO.out hb1)
        have HB1 := Lib.hid (HB.out.trans (hb1.mono HB.out.size))
        clear hb1
        go_wp2_with (at_builtin; refine wpList_append_own _ rfl _ _ 58 rfl w.heap.size 2 i0 (.int .i64 0) 1 8 Tryz.underlying58 hi hz0 hz1 hz2 rfl (by decide) _ _ _ rfl (HO1.out.alloc _) ⟨w1.heap.size, 0, none⟩ 1 1 [.int .i64 pt] rfl rfl ?c1 ?c2 ?c3 ?c4 ?c5 ?_)
        case c1 =>
          intro j v hj
          match j, hj with
          | 0, hj => simp at hj; subst hj; simp [Addr.add]
        case c2 => intro v hv; simp at hv; subst hv; rfl
        case c3 => unfold maxLen; omega
        case c4 => omega
        case c5 => have := HB1.out.size; simp; omega
        intro v' w2 hown' hgrow _
        obtain ⟨a', c', rfl⟩ := owns_slice hown'
        have HB2 := Lib.hid (below_appended HB1.out HO1.out hgrow)
        have HO2 := Lib.hid hown'
        clear hown' hgrow
        go_wp2
        go_roundw
        case rel =>
          refine ⟨u.extract k u.size, done ++ [pt], a', _, c', rfl, ?_, rfl, ?_, ?_, HB2.out⟩
          · rw [ByteArray.size_extract]; omega
          · rw [HD.out]; exact HN.out
          · rw [List.map_append]; exact HO2.out
        case measure => simp only [strSize, ByteArray.size_extract]; omega
      · have HBD := Lib.hid hbd
        have e1 : firstPt u.data.toList = 0 := by simp [firstPt, hbd]
        have e2 : firstSz u.data.toList = 0 := by simp [firstSz, hbd]
        have K := Lib.hid (l1First_any u (by unfold maxLen; omega) hlt)
        rw [e1, e2] at K
        clear e1 e2 hbd
        go_wp2_with fail
        refine (K.out _).mono ?_
        rintro e w1 ⟨rfl, hb1⟩
        go_wp2
        go_ret2
        have hp := pts_bad HST.out HNE.out HBD.out
        exact ⟨none, 0, 0, by rw [hp]; rfl, by rw [hp]; exact World.ownsRow_nil _ _ _ _, HB.out.trans (hb1.mono HB.out.size)⟩
    · have hu0 : u.data.toList = [] := by
        apply List.eq_nil_of_length_eq_zero
        rw [show u.data.toList.length = u.size by simp]
        omega
      have HU := Lib.hid hu0
      clear hu0
      go_wp2
      go_ret2
      have hst := HST.out
      rw [HU.out] at hst
      have hp := pts_end hst
      exact ⟨a, n, c, by rw [hp]; rfl, by rw [hp]; exact HO.out, HB.out⟩
end Go.Proofs.YtbfjhjkllaceaaaGreatDoor

/- Contract of the model's l1Chars. -/
namespace Go.Proofs.YtbfjhjkllaceaaaGreatDoor
open Go.ChangeShapes Go.WideShapes Go.ChangeAt Go.RowKit
set_option linter.unusedVariables false

theorem charsB_eq (l : List UInt8) : charsB l = ((pts l).isSome && ((pts l).getD []).all charB) := by
  unfold charsB pts
  have h : (strm l).all goodB = ((strm l).all (·.2) && ((strm l).map (·.1)).all charB) := by
    induction strm l with
    | nil => rfl
    | cons x r ih =>
      simp only [List.all_cons, List.map_cons, ih, goodB]
      cases x.2 <;> cases charB x.1 <;> simp
  rw [h]
  cases (strm l).all (·.2) <;> simp

theorem allTake_succ (L : List Int) (k : Nat) (h : k < L.length) (f : Int → Bool) : (L.take (k + 1)).all f = ((L.take k).all f && f (L.getD k 0)) := by
  rw [List.take_succ_eq_append_getElem h, List.all_append, List.getD_eq_getElem?_getD, List.getElem?_eq_getElem h]
  simp only [List.all_cons, List.all_nil, Bool.and_true, Option.getD_some]

set_option maxHeartbeats 1600000 in
theorem l1Chars_any (s : ByteArray) (hs : s.size ≤ 1048576) (w : World) :
    Calls Tryz.prog 101 #[.string s] w fun e w' => e = .returned (.bool (charsB s.data.toList)) ∧ Below w.heap.size w w' := by
  rw [charsB_eq]
  have hln : ((pts s.data.toList).getD []).length ≤ s.size := by
    unfold pts
    split
    · have := strm_len s.data.toList
      rw [show s.data.toList.length = s.size by simp] at this
      simpa using this
    · simp
  have K := Lib.hid (l1Points_any s hs)
  unfold PtsRes at K
  generalize (pts s.data.toList).isSome = ok0 at K
  generalize (pts s.data.toList).getD [] = L at K hln
  go_enter Tryz.func101, Tryz.ntmps101
  go_wp2_with fail
  refine (K.out _).mono ?_
  rintro e w1 ⟨a, n, c, rfl, ho, hb⟩
  have hnl := owns_length ho
  have HR := Lib.hid (Row.of_owns ho)
  have HB := Lib.hid hb
  have hn1 : n ≤ s.size := by omega
  have HNL := Lib.hid hnl
  clear ho hb hnl
  go_wp2
  go_loop [4, 13] (fun b i => ∃ k : Nat, k ≤ n ∧ i = .int .i64 k ∧ b = .bool (ok0 && (L.take k).all charB)) (fun _ i => n - (intOf i).toNat)
  case atStart => exact ⟨0, Nat.zero_le _, rfl, by simp⟩
  case round =>
    obtain ⟨k, hk, rfl, rfl⟩ := hrel
    by_cases hlt : k < n
    · rcases HR.out with ⟨hv, h0⟩ | ⟨b, o, cap, hv, h1, h2, h3, h4⟩
      · exfalso
        have := HNL.out
        rw [h0] at this
        simp at this
        omega
      · simp only [Value.slice.injEq] at hv
        obtain ⟨rfl, hnn, rfl⟩ := hv
        have hc := h4 k (by omega)
        have hsu := allTake_succ L k (by omega) charB
        generalize L.getD k 0 = pt at hc hsu
        have HSU := Lib.hid hsu
        have HNN := Lib.hid hnn
        clear hsu h4 hnn
        generalize hbb : (ok0 && (L.take k).all charB) = bb
        have HBB := Lib.hid hbb
        clear hbb
        cases bb
        · go_wp2
          go_round
          case rel => exact ⟨k + 1, by omega, by go_num, by rw [HSU.out, ← Bool.and_assoc, HBB.out]; rfl⟩
          case measure => simp [intOf]; omega
        · go_wp2_with fail
          refine (specIsChar_any pt _).mono ?_
          rintro e w2 ⟨rfl, rfl⟩
          go_wp2
          go_round
          case rel => exact ⟨k + 1, by omega, by go_num, by rw [HSU.out, ← Bool.and_assoc, HBB.out]; rfl⟩
          case measure => simp [intOf]; omega
    · obtain rfl : k = n := by omega
      generalize hbb : (ok0 && (L.take k).all charB) = bb
      have HBB := Lib.hid hbb
      clear hbb
      go_wp2
      go_ret
      refine ⟨ret_bool ?_, HB.out⟩
      rw [← HBB.out, HNL.out, List.take_length]

end Go.Proofs.YtbfjhjkllaceaaaGreatDoor

/- Contracts of the model's TextFault. -/
namespace Go.Proofs.YtbfjhjkllaceaaaGreatDoor
open Go.ChangeShapes Go.WideShapes Go.ChangeAt Go.RowKit
set_option linter.unusedVariables false

theorem specTextFault_any (s : ByteArray) (hs : s.size ≤ 1048576) (w : World) :
    Calls Tryz.prog 91 #[.string s] w fun e w' => e = .returned (.int .i64 (textFault s.data.toList)) ∧ Below w.heap.size w w' := by
  have K := Lib.hid (l1Chars_any s hs)
  have hl : s.data.toList.length = s.size := by simp
  unfold textFault
  rw [hl]
  clear hl
  generalize charsB s.data.toList = b at K
  by_cases h : 60 < s.size
  · rw [if_pos h]
    go_enter Tryz.func91, Tryz.ntmps91
    go_wp2
    go_ret
    exact ⟨rfl, Below.refl _ _⟩
  · rw [if_neg h]
    cases b
    all_goals
      go_enter Tryz.func91, Tryz.ntmps91
      go_wp2_with fail
      refine (K.out _).mono ?_
      rintro e w1 ⟨rfl, hb⟩
      go_wp2
      go_ret
      exact ⟨rfl, hb⟩
end Go.Proofs.YtbfjhjkllaceaaaGreatDoor

/- A text without a fault is short. -/
namespace Go.Proofs.YtbfjhjkllaceaaaGreatDoor
theorem fault_size {l : List UInt8} (h : textFault l = 0) : l.length ≤ 60 := by
  unfold textFault at h
  split at h
  · omega
  · omega
end Go.Proofs.YtbfjhjkllaceaaaGreatDoor

/- Contract of the model's l2Text. -/
namespace Go.Proofs.YtbfjhjkllaceaaaGreatDoor
open Go.ChangeShapes Go.WideShapes Go.ChangeAt Go.RowKit
set_option linter.unusedVariables false

/-- the text that bytes tell behind their number -/
def sbody (xs : List Int) : ByteArray := strOfNums ((xs.drop (vreadK xs)).take (vreadN xs).toNat)
def sOk (xs : List Int) : Bool := vreadOk xs && (decide (vreadN xs ≤ (xs.length : Int) - (vreadK xs : Int)) && decide (textFault (sbody xs).data.toList = 0))
def stxt (xs : List Int) : ByteArray := if sOk xs then sbody xs else ⟨#[]⟩
def ssz (xs : List Int) : Int := if sOk xs then (vreadK xs : Int) + vreadN xs else 0
theorem s_none {xs : List Int} (h : sOk xs = false) : stxt xs = ⟨#[]⟩ ∧ ssz xs = 0 := by unfold stxt ssz; simp [h]
theorem s_some {xs : List Int} (h : sOk xs = true) : stxt xs = sbody xs ∧ ssz xs = (vreadK xs : Int) + vreadN xs := by unfold stxt ssz; simp [h]
theorem str_eq {a b : ByteArray} (h : a = b) : Value.string a = .string b := by rw [h]
/-- a piece of a row -/
theorem Row.piece {w : World} {b o n c : Nat} {xs : List Int} (h : Row w .u8 (.slice (some ⟨b, o, none⟩) n c) xs) (k m : Nat) (hk : k + m ≤ n) : Row w .u8 (.slice (some ⟨b, o + k, none⟩) m (c - k)) ((xs.drop k).take m) := by
  rcases h with ⟨hv, _⟩ | ⟨b', o', cap, hv, h1, h2, h3, h4⟩
  · cases hv
  · simp only [Value.slice.injEq, Option.some.injEq, Addr.mk.injEq] at hv
    obtain ⟨⟨rfl, rfl, _⟩, hn, rfl⟩ := hv
    have hl : ((xs.drop k).take m).length = m := by simp; omega
    refine .inr ⟨b, o + k, c - k, by rw [hl], by rw [hl]; omega, by unfold maxLen at *; omega, h3, fun i hi => ?_⟩
    rw [hl] at hi
    have := h4 (k + i) (by omega)
    rw [show o + k + i = o + (k + i) by omega, this]
    simp [List.getD_eq_getElem?_getD, hi]
theorem Row.empty {w : World} {b o c : Nat} (hm : c ≤ maxLen) (hlt : b < w.heap.size) : Row w .u8 (.slice (some ⟨b, o, none⟩) 0 c) [] := .inr ⟨b, o, c, rfl, by simp, hm, hlt, fun i hi => by simp at hi⟩
theorem sbody_size (xs : List Int) (h : vreadN xs ≤ (xs.length : Int) - (vreadK xs : Int)) : ((sbody xs).size : Int) = vreadN xs := by
  have h0 := (vreadN_bd xs).1
  unfold sbody strOfNums
  simp [ByteArray.size]
  omega

/-- what l2Text answers -/
def TextRes (xs : List Int) (w : World) (e : Ending) (w' : World) : Prop :=
  e = .returned (.tuple #[.string (stxt xs), .int .i64 (ssz xs)]) ∧ Below w.heap.size w w'

set_option maxRecDepth 100000 in
set_option maxHeartbeats 1600000 in
theorem l2Text_bad (a : Option Addr) (n c : Nat) (xs : List Int) (w : World) (hn : n = xs.length) (h : Row w .u8 (.slice a n c) xs) (hby : ∀ i, 0 ≤ xs.getD i 0 ∧ xs.getD i 0 ≤ 255) (hk : vreadOk xs = false) :
    Calls Tryz.prog 72 #[.slice a n c] w (TextRes xs w) := by
  have K := Lib.hid (l2Read_any a n c xs w hn h hby)
  have HOK : Hid (sOk xs = false) := Lib.hid (by unfold sOk; rw [hk]; rfl)
  unfold ReadRes at K
  obtain ⟨e1, e2⟩ := read_none hk
  rw [e1, e2] at K
  clear hn h hby hk e1 e2
  go_enter Tryz.func72, Tryz.ntmps72
  go_wp2_with fail
  refine K.out.mono ?_
  rintro e w1 ⟨rfl, hb⟩
  have HB := Lib.hid hb
  clear hb
  go_wp2
  go_ret2
  obtain ⟨e1, e2⟩ := s_none HOK.out
  exact ⟨ret2 (str_eq (by rw [e1])) (int_eq (by rw [e2])), HB.out⟩

set_option maxRecDepth 100000 in
set_option maxHeartbeats 3200000 in
theorem l2Text_ok (b o n c : Nat) (xs : List Int) (w : World) (hn : n = xs.length) (h : Row w .u8 (.slice (some ⟨b, o, none⟩) n c) xs) (hby : ∀ i, 0 ≤ xs.getD i 0 ∧ xs.getD i 0 ≤ 255) (hk : vreadOk xs = true) :
    Calls Tryz.prog 72 #[.slice (some ⟨b, o, none⟩) n c] w (TextRes xs w) := by
  have K := Lib.hid (l2Read_any (some ⟨b, o, none⟩) n c xs w hn h hby)
  unfold ReadRes at K
  have HR := Lib.hid h
  have hkn := (vreadK_le xs).1
  rw [← hn] at hkn
  have hk9 := (vreadK_le xs).2
  have hv0 := (vreadN_bd xs).1
  have hv1 := (vreadN_bd xs).2
  have hk1 : 1 ≤ vreadK xs := by unfold vreadK; rw [hk]; simp
  have hcm : n ≤ c ∧ c ≤ maxLen ∧ b < w.heap.size := by
    rcases h with ⟨hv, _⟩ | ⟨b', o', cap, hv, h1, h2, h3, h4⟩
    · cases hv
    · simp only [Value.slice.injEq, Option.some.injEq, Addr.mk.injEq] at hv
      obtain ⟨⟨rfl, rfl, _⟩, hn', rfl⟩ := hv
      exact ⟨by omega, h2, h3⟩
  obtain ⟨hnc, hcm, hbw⟩ := hcm
  have HCM := Lib.hid hcm
  unfold maxLen at hcm
  have HBD := Lib.hid (sbody_size xs)
  rw [← hn] at HBD
  have HOK : Hid (sOk xs = (decide (vreadN xs ≤ (n : Int) - (vreadK xs : Int)) && decide (textFault (sbody xs).data.toList = 0))) := Lib.hid (by unfold sOk; rw [hk, hn]; simp)
  have HSB : Hid (sbody xs = strOfNums ((xs.drop (vreadK xs)).take (vreadN xs).toNat)) := Lib.hid rfl
  have HSOME := Lib.hid (s_some (xs := xs))
  clear hn h hby hk
  generalize vreadK xs = k at *
  generalize vreadN xs = v at *
  obtain ⟨N, rfl⟩ : ∃ N : Nat, v = N := ⟨v.toNat, by omega⟩
  rw [Int.toNat_natCast] at HSB
  have HV1 := Lib.hid hv1
  clear hv1 hv0
  have hk0 : ((k : Int) == 0) = false := by rw [beq_eq_false_iff_ne]; omega
  by_cases hlen : (N : Int) ≤ (n : Int) - (k : Int)
  · rw [decide_eq_true hlen, Bool.true_and] at HOK
    by_cases h60 : (N : Int) ≤ 60
    · have hNn : N ≤ n := by omega
      have hkN : k + N ≤ n := by omega
      have KT := Lib.hid (fun (W : World) => specTextFault_any (sbody xs) (by have := HBD.out hlen; omega) W)
      have HCV : Hid (∀ W, Below w.heap.size w W → (convert 22 9 (.slice (some ⟨b, o + k, none⟩) N (c - k))).run Tryz.prog W = .ok (.string (sbody xs)) W) := Lib.hid (fun W hW => by
        rw [HSB.out]
        exact conv_row (P := Tryz.prog) W Tryz.underlying22 Tryz.underlying5 Tryz.underlying9 ((HR.out.below hW).piece k N (by omega)))
      generalize sbody xs = T at *
      generalize textFault T.data.toList = t at *
      by_cases hkc : k < c
      · by_cases ht : t = 0
        · subst ht
          rw [decide_eq_true rfl] at HOK
          go_enter Tryz.func72, Tryz.ntmps72
          go_wp2_with fail
          refine K.out.mono ?_
          rintro e w1 ⟨rfl, hb⟩
          have HB := Lib.hid hb
          clear hb
          have hcv := HCV.out _ HB.out
          go_wp2_with fail
          refine (KT.out _).mono ?_
          rintro e w2 ⟨rfl, hb2⟩
          have HB2 := Lib.hid (below_then HB.out hb2)
          clear hb2
          go_wp2
          go_ret2
          obtain ⟨e1, e2⟩ := HSOME.out HOK.out
          exact ⟨ret2 (str_eq e1.symm) (int_eq (by rw [e2]; first | done | simp)), HB2.out⟩
        · rw [decide_eq_false ht] at HOK
          have h0 : (t == 0) = false := by simpa using ht
          have h1 : (t != 0) = true := by simpa using ht
          clear ht
          go_enter Tryz.func72, Tryz.ntmps72
          go_wp2_with fail
          refine K.out.mono ?_
          rintro e w1 ⟨rfl, hb⟩
          have HB := Lib.hid hb
          clear hb
          have hcv := HCV.out _ HB.out
          go_wp2_with fail
          refine (KT.out _).mono ?_
          rintro e w2 ⟨rfl, hb2⟩
          have HB2 := Lib.hid (below_then HB.out hb2)
          clear hb2
          go_wp2
          go_ret2
          obtain ⟨e1, e2⟩ := s_none HOK.out
          exact ⟨ret2 (str_eq (by rw [e1])) (int_eq (by rw [e2])), HB2.out⟩
      · obtain rfl : c = k := by omega
        obtain rfl : N = 0 := by omega
        have HCV2 : Hid (∀ W, Below w.heap.size w W → (convert 22 9 (.slice (some ⟨b, o, none⟩) 0 0)).run Tryz.prog W = .ok (.string T) W) := Lib.hid (fun W hW => by
          rw [HSB.out]
          exact conv_row (P := Tryz.prog) W Tryz.underlying22 Tryz.underlying5 Tryz.underlying9 (Row.empty (by decide) (Nat.lt_of_lt_of_le hbw hW.size)))
        by_cases ht : t = 0
        · subst ht
          rw [decide_eq_true rfl] at HOK
          go_enter Tryz.func72, Tryz.ntmps72
          go_wp2_with fail
          refine K.out.mono ?_
          rintro e w1 ⟨rfl, hb⟩
          have HB := Lib.hid hb
          clear hb
          have hcv := HCV2.out _ HB.out
          go_wp2_with fail
          refine (KT.out _).mono ?_
          rintro e w2 ⟨rfl, hb2⟩
          have HB2 := Lib.hid (below_then HB.out hb2)
          clear hb2
          go_wp2
          go_ret2
          obtain ⟨e1, e2⟩ := HSOME.out HOK.out
          exact ⟨ret2 (str_eq e1.symm) (int_eq (by rw [e2]; first | done | simp)), HB2.out⟩
        · rw [decide_eq_false ht] at HOK
          have h0 : (t == 0) = false := by simpa using ht
          have h1 : (t != 0) = true := by simpa using ht
          clear ht
          go_enter Tryz.func72, Tryz.ntmps72
          go_wp2_with fail
          refine K.out.mono ?_
          rintro e w1 ⟨rfl, hb⟩
          have HB := Lib.hid hb
          clear hb
          have hcv := HCV2.out _ HB.out
          go_wp2_with fail
          refine (KT.out _).mono ?_
          rintro e w2 ⟨rfl, hb2⟩
          have HB2 := Lib.hid (below_then HB.out hb2)
          clear hb2
          go_wp2
          go_ret2
          obtain ⟨e1, e2⟩ := s_none HOK.out
          exact ⟨ret2 (str_eq (by rw [e1])) (int_eq (by rw [e2])), HB2.out⟩
    · have HOK2 : Hid (sOk xs = false) := Lib.hid (by
        rw [HOK.out, decide_eq_false_iff_not]
        intro hf
        have h1 := fault_size hf
        have h2 := HBD.out hlen
        have h3 : (sbody xs).data.toList.length = (sbody xs).size := by simp
        omega)
      clear HOK
      have HOK := HOK2
      have h60' : (60 : Int) < (N : Int) := by omega
      go_enter Tryz.func72, Tryz.ntmps72
      go_wp2_with fail
      refine K.out.mono ?_
      rintro e w1 ⟨rfl, hb⟩
      have HB := Lib.hid hb
      clear hb
      go_wp2
      go_ret2
      obtain ⟨e1, e2⟩ := s_none HOK.out
      exact ⟨ret2 (str_eq (by rw [e1])) (int_eq (by rw [e2])), HB.out⟩
  · rw [decide_eq_false hlen, Bool.false_and] at HOK
    have hlen' : (n : Int) - (k : Int) < (N : Int) := by omega
    have hv9 : (N : Int) ≤ 9223372036854775807 := HV1.out
    clear hlen
    by_cases h60 : (60 : Int) < (N : Int)
    · skip
      go_enter Tryz.func72, Tryz.ntmps72
      go_wp2_with fail
      refine K.out.mono ?_
      rintro e w1 ⟨rfl, hb⟩
      have HB := Lib.hid hb
      clear hb
      go_wp2
      go_ret2
      obtain ⟨e1, e2⟩ := s_none HOK.out
      exact ⟨ret2 (str_eq (by rw [e1])) (int_eq (by rw [e2])), HB.out⟩
    · skip
      go_enter Tryz.func72, Tryz.ntmps72
      go_wp2_with fail
      refine K.out.mono ?_
      rintro e w1 ⟨rfl, hb⟩
      have HB := Lib.hid hb
      clear hb
      go_wp2
      go_ret2
      obtain ⟨e1, e2⟩ := s_none HOK.out
      exact ⟨ret2 (str_eq (by rw [e1])) (int_eq (by rw [e2])), HB.out⟩
theorem row_some {w : World} {a : Option Addr} {n c : Nat} {xs : List Int} (h : Row w .u8 (.slice a n c) xs) (hk : vreadOk xs = true) : ∃ b o, a = some ⟨b, o, none⟩ := by
  rcases h with ⟨hv, h0⟩ | ⟨b, o, cap, hv, _⟩
  · subst h0
    exact absurd hk (by decide)
  · simp only [Value.slice.injEq] at hv
    exact ⟨b, o, hv.1⟩
theorem l2Text_any (a : Option Addr) (n c : Nat) (xs : List Int) (w : World) (hn : n = xs.length) (h : Row w .u8 (.slice a n c) xs) (hby : ∀ i, 0 ≤ xs.getD i 0 ∧ xs.getD i 0 ≤ 255) :
    Calls Tryz.prog 72 #[.slice a n c] w (TextRes xs w) := by
  cases hk : vreadOk xs
  · exact l2Text_bad a n c xs w hn h hby hk
  · obtain ⟨b, o, rfl⟩ := row_some h hk
    exact l2Text_ok b o n c xs w hn h hby hk

end Go.Proofs.YtbfjhjkllaceaaaGreatDoor

/- Rows of texts. -/
namespace Go.Proofs.YtbfjhjkllaceaaaGreatDoor
open Go.ChangeShapes Go.WideShapes Go.ChangeAt Go.RowKit
set_option linter.unusedVariables false

/-- A slice value that reads as these texts. -/
def RowS (w : World) (v : Value) (ts : List ByteArray) : Prop :=
  (v = .slice none 0 0 ∧ ts = []) ∨ ∃ b o cap, v = .slice (some ⟨b, o, none⟩) ts.length cap ∧ ts.length ≤ cap ∧ cap ≤ maxLen ∧ b < w.heap.size ∧ ∀ i, i < ts.length → w.cell? ⟨b, o + i, none⟩ = some (.string (ts.getD i ByteArray.empty))
theorem RowS.of_owns {w : World} {base : Nat} {e : TypeId} {v : Value} {n : Nat} {ts : List ByteArray} (h : w.ownsRow base e 1 v n (ts.map Value.string)) : RowS w v ts := by
  have hl : ts.length = n := by have := h.1; simpa using this
  subst hl
  rcases h.2 with ⟨hv, hn⟩ | ⟨g, cap, cur, hv, hg, hh, hnc, hm, hs, ht⟩
  · have : ts = [] := List.length_eq_zero_iff.1 hn
    subst this
    exact .inl ⟨hv, rfl⟩
  · subst hv
    have hlt := (h.lt g rfl).2
    refine .inr ⟨g, 0, cap, rfl, hnc, hm, hlt, fun i hi => ?_⟩
    rw [Nat.zero_add, h.cellAt i (by omega), List.getElem?_map, List.getElem?_eq_getElem hi, List.getD_eq_getElem?_getD, List.getElem?_eq_getElem hi]
    rfl
theorem RowS.below {w w' : World} {v : Value} {ts : List ByteArray} (h : RowS w v ts) (hb : Below w.heap.size w w') : RowS w' v ts := by
  rcases h with h | ⟨b, o, cap, hv, h1, h2, h3, h4⟩
  · exact .inl h
  · exact .inr ⟨b, o, cap, hv, h1, h2, Nat.lt_of_lt_of_le h3 hb.size, fun i hi => (hb.cell (by exact h3)).trans (h4 i hi)⟩
theorem ownsS_length {w : World} {base : Nat} {e : TypeId} {v : Value} {n : Nat} {ts : List ByteArray} (h : w.ownsRow base e 1 v n (ts.map Value.string)) : n = ts.length := by
  have := h.1
  simpa using this.symm

theorem strInfo : (Tryz.prog.info? 9).map (fun i => (i.zero, i.size, i.bytes)) = some (some (.string ByteArray.empty), 1, 16) := by kernel_rfl
theorem strCells1 (W : World) (t : ByteArray) (j : Nat) (u : Value) (hj : [Value.string t][j]? = some u) : ((W.alloc (.cells #[.string t] 9))).cell? (Addr.add ⟨W.heap.size, 0, none⟩ j) = some u := by
  match j, hj with
  | 0, hj => simp at hj; subst hj; simp [Addr.add]
theorem ownsDrew {w : World} {base : Nat} {e : TypeId} {size : Nat} {v : Value} {n : Nat} {xs : List Value} (h : w.ownsRow base e size v n xs) : w.drew.ownsRow base e size v n xs := h
theorem grownDrew {w w1 : World} {r : Option Nat} (h : w.drew.grownBy w1 r) : w.grownBy w1 r := ⟨h.os, h.tape, h.output, h.size, h.block⟩

/-- a new row of texts is handed back -/
def OwnsStr (w : World) (ts : List ByteArray) (en : Ending) (w' : World) : Prop :=
  ∃ a c, en = .returned (.slice a ts.length c) ∧ w'.ownsRow w.heap.size 9 1 (.slice a ts.length c) ts.length (ts.map Value.string) ∧ Below w.heap.size w w'

end Go.Proofs.YtbfjhjkllaceaaaGreatDoor

/- An append to a row of the call's own, as one step of a region that draws its order. -/
namespace Go.Proofs.YtbfjhjkllaceaaaGreatDoor
open Go.ChangeShapes Go.WideShapes Go.ChangeAt Go.RowKit
set_option linter.unusedVariables false

theorem step_own {P : Program} {ops : Array Oper} {o : Oper} {a : Act} {w : World} {K : Act → World → Prop} {Q : Exit → Act → World → Prop} {E : Prop} (hw : Region.wanted o (yielded ops a.tmps) = true) (s x : Operand) (t : TypeId)
    (ho : o.op = .call { callee := .builtin .append, args := #[s, x], argTypes := #[t, t] })
    (e : TypeId) (i : TypeInfo) (z : Value) (size bytes : Nat) (ht : P.underlying t = some (.slice e)) (hi : P.info? e = some i) (hz : i.zero = some z) (hsize : i.size = size) (hby : i.bytes = bytes) (hzc : z.cells.size = size) (hpos : 0 < size)
    (base : Nat) (v : Value) (n : Nat) (xs : List Value) (hs : a.eval s = v) (hown : w.ownsRow base e size v n xs)
    (ad : Addr) (m c : Nat) (ys : List Value) (hx : a.eval x = .slice (some ad) m c) (hn : ys.length = m * size) (hcells : ∀ j u, ys[j]? = some u → w.cell? (ad.add j) = some u) (h1c : ∀ u ∈ ys, u.oneCell' = true)
    (b1 : n + m ≤ maxLen) (b2 : (n + m) * bytes ≤ 140737488355328) (hbase : base ≤ w.heap.size)
    (h : ∀ v' w', w'.ownsRow base e size v' (n + m) (xs ++ ys) → w.grownBy w' v.ownBlock → K (a.put o.dst v') w') :
    if Region.wanted o (yielded ops a.tmps) = true then Oper.wp P o a w K Q else E := by
  rw [if_pos hw]
  refine wp_append_own w s x t ho base e i _ size bytes ht hi hz hsize hby hzc hpos v n xs (by rw [hs]) hown ad m c ys hx hn hcells h1c b1 b2 hbase ?_
  intro v' w' hown' hgrow hnil
  exact h v' w' hown' hgrow
theorem step_own_at {P : Program} {ops : Array Oper} {o : Oper} {a : Act} {w : World} {K : Act → World → Prop} {Q : Exit → Act → World → Prop} {E : Prop} (hw : Region.wanted o (yielded ops a.tmps) = true) (s x : Operand) (t : TypeId)
    (ho : o.op = .call { callee := .builtin .append, args := #[s, x], argTypes := #[t, t] })
    (e : TypeId) (i : TypeInfo) (z : Value) (size bytes : Nat) (ht : P.underlying t = some (.slice e)) (hi : P.info? e = some i) (hz : i.zero = some z) (hsize : i.size = size) (hby : i.bytes = bytes) (hzc : z.cells.size = size) (hpos : 0 < size)
    (base : Nat) (v : Value) (n : Nat) (xs : List Value) (hs : a.eval s = v) (hown : w.ownsRow base e size v n xs)
    (ad : Addr) (m c : Nat) (ys : List Value) (hx : a.eval x = .slice (some ad) m c) (hn : ys.length = m * size) (hcells : ∀ j u, ys[j]? = some u → w.cell? (ad.add j) = some u) (h1c : ∀ u ∈ ys, u.oneCell' = true)
    (b1 : n + m ≤ maxLen) (b2 : (n + m) * bytes ≤ 140737488355328) (hbase : base ≤ w.heap.size)
    (h : ∀ v' w', w'.ownsRow base e size v' (n + m) (xs ++ ys) → w.grownBy w' v.ownBlock → (v'.ownBlock = v.ownBlock ∨ v'.ownBlock = some w.heap.size) → K (a.put o.dst v') w') :
    if Region.wanted o (yielded ops a.tmps) = true then Oper.wp P o a w K Q else E := by
  rw [if_pos hw]
  obtain ⟨v', w', hr, h2, h3, h4, h5⟩ := run_append_own_at (P := P) w base t o.type e i z size bytes ht hi hz hsize hby hzc hpos v n xs hown ad m c ys hn hcells h1c b1 b2 hbase
  unfold Oper.wp execOp
  simp only [ho, resolve, invoke, builtin, Sem.run_bind, Sem.run_pure, Result.andThen_ok, List.map_toArray, List.map_cons, List.map_nil, hs, hx, hr]
  exact h v' w' h2 h3 h5
end Go.Proofs.YtbfjhjkllaceaaaGreatDoor

/- The model's reader of frames: number, text. -/
namespace Go.Proofs.YtbfjhjkllaceaaaGreatDoor
open Go.ChangeShapes Go.WideShapes Go.ChangeAt Go.RowKit
set_option linter.unusedVariables false

/-- what a reader holds: what is ahead, and whether it has met a fault -/
structure Rd where
  xs : List Int
  bad : Bool
/-- a number is read -/
def numV (r : Rd) : Int := if vreadK r.xs = 0 ∨ r.bad = true then 0 else vreadN r.xs
def numR (r : Rd) : Rd := if vreadK r.xs = 0 ∨ r.bad = true then ⟨r.xs, true⟩ else ⟨r.xs.drop (vreadK r.xs), false⟩
/-- a text is read, by its place -/
def txtV (ts : List ByteArray) (r : Rd) : ByteArray := if numV r < ts.length then ts.getD (numV r).toNat ByteArray.empty else ByteArray.empty
def txtR (ts : List ByteArray) (r : Rd) : Rd := if numV r < ts.length then numR r else ⟨(numR r).xs, true⟩
theorem numV_bd (r : Rd) : 0 ≤ numV r ∧ numV r ≤ 9223372036854775807 := by
  unfold numV
  split
  · omega
  · exact vreadN_bd _

/-- a reader in block b: its bytes lie in w0, its texts in a row of its own -/
structure RdAt (w0 w : World) (b : Nat) (r : Rd) (ts : List ByteArray) : Prop where
  lt : b < w.heap.size
  ge : w0.heap.size ≤ b
  below : Below w0.heap.size w0 w
  byte : ∀ i, 0 ≤ r.xs.getD i 0 ∧ r.xs.getD i 0 ≤ 255
  c0 : ∃ a n c, w.cell? ⟨b, 0, none⟩ = some (.slice a n c) ∧ n = r.xs.length ∧ Row w0 .u8 (.slice a n c) r.xs
  c1 : ∃ a n c, w.cell? ⟨b, 1, none⟩ = some (.slice a n c) ∧ w.ownsRow w0.heap.size 9 1 (.slice a n c) n (ts.map Value.string) ∧ (Value.slice a n c).ownBlock ≠ some b
  c2 : w.cell? ⟨b, 2, none⟩ = some (.bool r.bad)
  f0 : w.frozen? ⟨b, 0, none⟩ = false
  f1 : w.frozen? ⟨b, 1, none⟩ = false
  f2 : w.frozen? ⟨b, 2, none⟩ = false
theorem grown_set (w : World) (a : Addr) (u : Value) : w.grownBy (w.setCell a u) (some a.block) :=
  ⟨rfl, rfl, rfl, by simp, fun k _ hk => Below.heap_setCell _ _ _ k (fun e => hk (by rw [e]))⟩
theorem set_at {w : World} {p : Addr} {u v : Value} (h : w.cell? p = some u) : (w.setCell p v).cell? p = some v := World.cell?_setCell_same _ _ _ h
theorem set_oth {w : World} {b i j : Nat} {v u : Value} (h : i ≠ j) (h2 : w.cell? ⟨b, j, none⟩ = some u) : (w.setCell ⟨b, i, none⟩ v).cell? ⟨b, j, none⟩ = some u := (World.cell?_setCell_other _ _ _ _ (fun e => absurd (congrArg Addr.off e) h)).trans h2
theorem cell_oth (w : World) (b i j : Nat) (v : Value) (h : i ≠ j) : (w.setCell ⟨b, i, none⟩ v).cell? ⟨b, j, none⟩ = w.cell? ⟨b, j, none⟩ := World.cell?_setCell_other _ _ _ _ (fun e => absurd (congrArg Addr.off e) h)
theorem row_kept {w w' : World} {base : Nat} {e : TypeId} {size : Nat} {v : Value} {n : Nat} {xs : List Value} {b : Nat} (h : w.ownsRow base e size v n xs) (hg : w.grownBy w' (some b)) (hne : v.ownBlock ≠ some b) : w'.ownsRow base e size v n xs := h.kept hg (.inr hne)
theorem grown_below {w w' : World} {r : Option Nat} (h : Below w.heap.size w w') : w.grownBy w' r := ⟨h.os, h.tape, h.output, h.size, fun i hi _ => h.block i hi⟩
theorem grown_trans' {a b c : World} {r : Option Nat} (h : a.grownBy b r) (k : b.grownBy c r) : a.grownBy c r :=
  ⟨k.os.trans h.os, k.tape.trans h.tape, k.output.trans h.output, Nat.le_trans h.size k.size, fun i hi hne => (k.block i (Nat.lt_of_lt_of_le hi h.size) hne).trans (h.block i hi hne)⟩
theorem RdAt.keep {w0 w w' : World} {b : Nat} {r : Rd} {ts : List ByteArray} (h : RdAt w0 w b r ts) (hb : Below w.heap.size w w') : RdAt w0 w' b r ts := by
  obtain ⟨a, n, c, h1, h2, h3⟩ := h.c0
  obtain ⟨a', n', c', g1, g2, g3⟩ := h.c1
  exact ⟨Nat.lt_of_lt_of_le h.lt hb.size, h.ge, h.below.trans (hb.mono h.below.size), h.byte, ⟨a, n, c, (hb.cell (by exact h.lt)).trans h1, h2, h3⟩,
    ⟨a', n', c', (hb.cell (by exact h.lt)).trans g1, owns_below g2 hb, g3⟩, (hb.cell (by exact h.lt)).trans h.c2, (hb.frozen (by exact h.lt)).trans h.f0, (hb.frozen (by exact h.lt)).trans h.f1, (hb.frozen (by exact h.lt)).trans h.f2⟩
theorem below_setW {w0 w : World} {p : Addr} {u : Value} (h : Below w0.heap.size w0 w) (hp : w0.heap.size ≤ p.block) : Below w0.heap.size w0 (w.setCell p u) := h.setCell hp u
theorem RdAt.setBad {w0 w : World} {b : Nat} {r : Rd} {ts : List ByteArray} (h : RdAt w0 w b r ts) (bad : Bool) : RdAt w0 (w.setCell ⟨b, 2, none⟩ (.bool bad)) b ⟨r.xs, bad⟩ ts := by
  obtain ⟨a, n, c, h1, h2, h3⟩ := h.c0
  obtain ⟨a', n', c', g1, g2, g3⟩ := h.c1
  have hc2 := h.c2
  have f0 := h.f0
  have f1 := h.f1
  have f2 := h.f2
  refine ⟨by simpa using h.lt, h.ge, below_setW h.below h.ge, h.byte, ⟨a, n, c, set_oth (by decide) h1, h2, h3⟩, ⟨a', n', c', set_oth (by decide) g1, row_kept g2 (grown_set _ _ _) g3, g3⟩, set_at hc2, by rw [World.frozen?_setCell]; exact f0, by rw [World.frozen?_setCell]; exact f1, by rw [World.frozen?_setCell]; exact f2⟩
theorem RdAt.setXs {w0 w : World} {b : Nat} {r : Rd} {ts : List ByteArray} (h : RdAt w0 w b r ts) (xs : List Int) (a : Option Addr) (n c : Nat) (hby : ∀ i, 0 ≤ xs.getD i 0 ∧ xs.getD i 0 ≤ 255) (hn : n = xs.length) (hr : Row w0 .u8 (.slice a n c) xs) : RdAt w0 (w.setCell ⟨b, 0, none⟩ (.slice a n c)) b ⟨xs, r.bad⟩ ts := by
  obtain ⟨a0, n0, c0, h1, h2, h3⟩ := h.c0
  obtain ⟨a', n', c', g1, g2, g3⟩ := h.c1
  have hc2 := h.c2
  have f0 := h.f0
  have f1 := h.f1
  have f2 := h.f2
  refine ⟨by simpa using h.lt, h.ge, below_setW h.below h.ge, hby, ⟨a, n, c, set_at h1, hn, hr⟩, ⟨a', n', c', set_oth (by decide) g1, row_kept g2 (grown_set _ _ _) g3, g3⟩, set_oth (by decide) hc2, by rw [World.frozen?_setCell]; exact f0, by rw [World.frozen?_setCell]; exact f1, by rw [World.frozen?_setCell]; exact f2⟩
/-- what is written is new, or in one block -/
theorem grown_mix {a b c : World} {x : Option Nat} {row : Option Nat} (h : a.grownBy b x) (hg : b.grownBy c row) (hr : ∀ g, row = some g → a.heap.size ≤ g) : a.grownBy c x :=
  ⟨hg.os.trans h.os, hg.tape.trans h.tape, hg.output.trans h.output, Nat.le_trans h.size hg.size, fun i hi hne => (hg.block i (Nat.lt_of_lt_of_le hi h.size) (by
    intro e
    have := hr i e.symm
    omega)).trans (h.block i hi hne)⟩
theorem getD_drop {xs : List Int} (h : ∀ i, 0 ≤ xs.getD i 0 ∧ xs.getD i 0 ≤ 255) (k : Nat) : ∀ i, 0 ≤ (xs.drop k).getD i 0 ∧ (xs.drop k).getD i 0 ≤ 255 := by
  intro i
  have := h (k + i)
  rw [List.getD_eq_getElem?_getD] at this ⊢
  rwa [List.getElem?_drop]

/-- a number was read -/
def NumRes (w0 w : World) (b : Nat) (v : Int) (r : Rd) (ts : List ByteArray) (e : Ending) (w' : World) : Prop :=
  e = .returned (.int .i64 v) ∧ RdAt w0 w' b r ts ∧ w.grownBy w' (some b) ∧ w'.cell? ⟨b, 1, none⟩ = w.cell? ⟨b, 1, none⟩

set_option maxRecDepth 100000 in
set_option maxHeartbeats 1600000 in
theorem number_any (w0 : World) (b : Nat) (r : Rd) (ts : List ByteArray) (w : World) (h : RdAt w0 w b r ts) :
    Calls Tryz.prog 43 #[.pointer (some ⟨b, 0, none⟩)] w (NumRes w0 w b (numV r) (numR r) ts) := by
  obtain ⟨a, n, c, hc0, hn, hrow⟩ := h.c0
  have K := Lib.hid (l2Read_any a n c r.xs w hn (hrow.below h.below) h.byte)
  have hkl := (vreadK_le r.xs).1
  unfold ReadRes at K
  unfold NumRes
  have H := Lib.hid h
  have hc2 := h.c2
  have hlt := h.lt
  have HN := Lib.hid hn
  have HROW := Lib.hid hrow
  cases hbad : r.bad
  · rw [hbad] at hc2
    by_cases hk : vreadK r.xs = 0
    · have e1 : numV r = 0 := by unfold numV; rw [if_pos (.inl hk)]
      have e2 : numR r = ⟨r.xs, true⟩ := by unfold numR; rw [if_pos (.inl hk)]
      rw [e1, e2]
      rw [hk] at K
      generalize vreadN r.xs = v at K
      clear e1 e2 h hn hrow hkl hk hbad
      go_enter Tryz.func43, Tryz.ntmps43
      go_wp2_with fail
      refine K.out.mono ?_
      rintro e w1 ⟨rfl, hb1⟩
      have H1 := Lib.hid (H.out.keep hb1)
      have HB1 := Lib.hid hb1
      have f2 := H1.out.f2
      have g2 := H1.out.c2
      have hlt1 := H1.out.lt
      clear hb1 hc0 hc2
      go_wp2
      go_ret
      exact ⟨rfl, H1.out.setBad true, grown_trans' (grown_below HB1.out) (grown_set _ _ _), (cell_oth _ _ _ _ _ (by decide)).trans (HB1.out.cell (by exact hlt))⟩
    · have e1 : numV r = vreadN r.xs := by unfold numV; rw [if_neg (by rw [hbad]; simpa using hk)]
      have e2 : numR r = ⟨r.xs.drop (vreadK r.xs), false⟩ := by unfold numR; rw [if_neg (by rw [hbad]; simpa using hk)]
      rw [e1, e2]
      have hk0 : ((vreadK r.xs : Int) == 0) = false := by rw [beq_eq_false_iff_ne]; omega
      have hk1 : vreadK r.xs ≤ n := by omega
      have HDR := Lib.hid (getD_drop h.byte (vreadK r.xs))
      have HLD : Hid (n - vreadK r.xs = (r.xs.drop (vreadK r.xs)).length) := Lib.hid (by rw [List.length_drop, hn])
      have hok : vreadOk r.xs = true := by
        cases hv : vreadOk r.xs
        · exact absurd (read_none hv).2 hk
        · rfl
      obtain ⟨rb, ro, rfl⟩ := row_some hrow hok
      have hcap : n ≤ c ∧ c ≤ maxLen ∧ rb < w0.heap.size := by
        rcases hrow with ⟨hv, _⟩ | ⟨b', o', cap, hv, g1, g2, g3, g4⟩
        · cases hv
        · simp only [Value.slice.injEq, Option.some.injEq, Addr.mk.injEq] at hv
          obtain ⟨⟨rfl, rfl, _⟩, hn', rfl⟩ := hv
          exact ⟨by omega, g2, g3⟩
      obtain ⟨hnc, hcm, hrb⟩ := hcap
      have HPC : Hid (Row w0 .u8 (.slice (some ⟨rb, ro + vreadK r.xs, none⟩) (n - vreadK r.xs) (c - vreadK r.xs)) (r.xs.drop (vreadK r.xs))) := Lib.hid (by
        have := hrow.piece (vreadK r.xs) (n - vreadK r.xs) (by omega)
        rwa [List.take_of_length_le (by rw [List.length_drop]; omega)] at this)
      have HPE : Hid (c = vreadK r.xs → Row w0 .u8 (.slice (some ⟨rb, ro, none⟩) 0 0) (r.xs.drop (vreadK r.xs))) := Lib.hid (fun hc => by
        have hz : r.xs.drop (vreadK r.xs) = [] := List.drop_eq_nil_of_le (by omega)
        rw [hz]
        exact Row.empty (by decide) hrb)
      have hcm2 := hcm
      unfold maxLen at hcm2
      have HBAD := Lib.hid hbad
      generalize vreadN r.xs = v at K
      generalize vreadK r.xs = k at *
      generalize r.xs.drop k = ys at *
      clear e1 e2 h hn hrow hkl hbad hok
      by_cases hkc : k < c
      · go_enter Tryz.func43, Tryz.ntmps43
        go_wp2_with fail
        refine K.out.mono ?_
        rintro e w1 ⟨rfl, hb1⟩
        have H1 := Lib.hid (H.out.keep hb1)
        have HB1 := Lib.hid hb1
        have g2 := (hb1.cell (p := ⟨b, 2, none⟩) hlt).trans hc2
        have g0 := (hb1.cell (p := ⟨b, 0, none⟩) hlt).trans hc0
        have f0 := H1.out.f0
        have hlt1 := H1.out.lt
        clear hb1 hc0 hc2
        go_wp2
        go_ret
        exact ⟨rfl, by have := H1.out.setXs ys _ _ _ HDR.out HLD.out HPC.out; rwa [HBAD.out] at this, grown_trans' (grown_below HB1.out) (grown_set _ _ _), (cell_oth _ _ _ _ _ (by decide)).trans (HB1.out.cell (by exact hlt))⟩
      · obtain rfl : c = k := by omega
        obtain rfl : n = c := by omega
        have HPE2 := Lib.hid (HPE.out rfl)
        have hn0 : n - n = 0 := by omega
        rw [hn0] at HLD
        go_enter Tryz.func43, Tryz.ntmps43
        go_wp2_with fail
        refine K.out.mono ?_
        rintro e w1 ⟨rfl, hb1⟩
        have H1 := Lib.hid (H.out.keep hb1)
        have HB1 := Lib.hid hb1
        have g2 := (hb1.cell (p := ⟨b, 2, none⟩) hlt).trans hc2
        have g0 := (hb1.cell (p := ⟨b, 0, none⟩) hlt).trans hc0
        have f0 := H1.out.f0
        have hlt1 := H1.out.lt
        clear hb1 hc0 hc2
        go_wp2
        go_ret
        exact ⟨rfl, by have := H1.out.setXs ys _ _ _ HDR.out HLD.out HPE2.out; rwa [HBAD.out] at this, grown_trans' (grown_below HB1.out) (grown_set _ _ _), (cell_oth _ _ _ _ _ (by decide)).trans (HB1.out.cell (by exact hlt))⟩
  · rw [hbad] at hc2
    have e1 : numV r = 0 := by unfold numV; rw [if_pos (.inr hbad)]
    have e2 : numR r = ⟨r.xs, true⟩ := by unfold numR; rw [if_pos (.inr hbad)]
    rw [e1, e2]
    generalize vreadN r.xs = v at K
    generalize vreadK r.xs = k at K hkl
    clear e1 e2 h hn hrow hbad
    by_cases hk : k = 0
    · have hk0 : ((k : Int) == 0) = true := by rw [hk]; rfl
      clear hk
      go_enter Tryz.func43, Tryz.ntmps43
      go_wp2_with fail
      refine K.out.mono ?_
      rintro e w1 ⟨rfl, hb1⟩
      have H1 := Lib.hid (H.out.keep hb1)
      have HB1 := Lib.hid hb1
      have f2 := H1.out.f2
      have g2 := (hb1.cell (p := ⟨b, 2, none⟩) hlt).trans hc2
      have hlt1 := H1.out.lt
      clear hb1 hc0 hc2
      go_wp2
      go_ret
      exact ⟨rfl, H1.out.setBad true, grown_trans' (grown_below HB1.out) (grown_set _ _ _), (cell_oth _ _ _ _ _ (by decide)).trans (HB1.out.cell (by exact hlt))⟩
    · have hk0 : ((k : Int) == 0) = false := by rw [beq_eq_false_iff_ne]; omega
      go_enter Tryz.func43, Tryz.ntmps43
      go_wp2_with fail
      refine K.out.mono ?_
      rintro e w1 ⟨rfl, hb1⟩
      have H1 := Lib.hid (H.out.keep hb1)
      have HB1 := Lib.hid hb1
      have f2 := H1.out.f2
      have g2 := (hb1.cell (p := ⟨b, 2, none⟩) hlt).trans hc2
      have hlt1 := H1.out.lt
      clear hb1 hc0 hc2
      go_wp2
      go_ret
      exact ⟨rfl, H1.out.setBad true, grown_trans' (grown_below HB1.out) (grown_set _ _ _), (cell_oth _ _ _ _ _ (by decide)).trans (HB1.out.cell (by exact hlt))⟩

/-- a text was read -/
def TxtGot (w0 w : World) (b : Nat) (v : ByteArray) (r : Rd) (ts : List ByteArray) (e : Ending) (w' : World) : Prop :=
  e = .returned (.string v) ∧ RdAt w0 w' b r ts ∧ w.grownBy w' (some b) ∧ w'.cell? ⟨b, 1, none⟩ = w.cell? ⟨b, 1, none⟩

set_option maxRecDepth 100000 in
set_option maxHeartbeats 1600000 in
theorem text_any (w0 : World) (b : Nat) (r : Rd) (ts : List ByteArray) (w : World) (h : RdAt w0 w b r ts) :
    Calls Tryz.prog 74 #[.pointer (some ⟨b, 0, none⟩)] w (TxtGot w0 w b (txtV ts r) (txtR ts r) ts) := by
  have K := Lib.hid (number_any w0 b r ts w h)
  have hbd := numV_bd r
  unfold NumRes at K
  unfold TxtGot
  have hlt0 := h.lt
  by_cases hv : numV r < ts.length
  · have e1 : txtV ts r = ts.getD (numV r).toNat ByteArray.empty := by unfold txtV; rw [if_pos hv]
    have e2 : txtR ts r = numR r := by unfold txtR; rw [if_pos hv]
    rw [e1, e2]
    generalize numV r = v at K hbd hv e1 ⊢
    generalize numR r = r' at K e2 ⊢
    clear e1 e2 h
    obtain ⟨N, rfl⟩ : ∃ N : Nat, v = N := ⟨v.toNat, by omega⟩
    rw [Int.toNat_natCast]
    have hN : N < ts.length := by omega
    go_enter Tryz.func74, Tryz.ntmps74
    go_wp2_with fail
    refine K.out.mono ?_
    rintro e w1 ⟨rfl, h1, hg1, hx1⟩
    have HX1 := Lib.hid hx1
    clear hx1
    obtain ⟨aL, nL, cL, g1, g2, g3⟩ := h1.c1
    have hl := ownsS_length g2
    have hlt1 := h1.lt
    have HG1 := Lib.hid hg1
    have H1 := Lib.hid h1
    have hbr : ∃ g, aL = some ⟨g, 0, none⟩ := by
      rcases g2.2 with ⟨hv, h0⟩ | ⟨g, cap, cur, hv, _⟩
      · omega
      · simp only [Value.slice.injEq] at hv
        exact ⟨_, hv.1⟩
    obtain ⟨g, rfl⟩ := hbr
    have hc := g2.cellAt N (by omega)
    rw [List.getElem?_map, List.getElem?_eq_getElem hN, Option.map_some] at hc
    have ht : ts.getD N ByteArray.empty = ts[N] := by rw [List.getD_eq_getElem?_getD, List.getElem?_eq_getElem hN]; rfl
    have HT := Lib.hid ht
    generalize ts[N] = t at hc HT
    have k1 : (N : Int) < (nL : Int) := by omega
    have k2 : N < nL := by omega
    have k3 : (nL : Int) ≤ 9223372036854775807 := by
      rcases g2.2 with ⟨hv, h0⟩ | ⟨g', cap, cur, hv, q1, q2, q3, q4, _⟩
      · omega
      · unfold maxLen at q4; omega
    clear ht hl g2 g3 h1 hg1
    go_wp2
    go_ret
    exact ⟨by rw [HT.out]; rfl, H1.out, HG1.out, HX1.out⟩
  · have e1 : txtV ts r = ByteArray.empty := by unfold txtV; rw [if_neg hv]
    have e2 : txtR ts r = ⟨(numR r).xs, true⟩ := by unfold txtR; rw [if_neg hv]
    rw [e1, e2]
    generalize numV r = v at K hbd hv e1 ⊢
    generalize numR r = r' at K e2 ⊢
    clear e1 e2 h
    go_enter Tryz.func74, Tryz.ntmps74
    go_wp2_with fail
    refine K.out.mono ?_
    rintro e w1 ⟨rfl, h1, hg1, hx1⟩
    have HX1 := Lib.hid hx1
    clear hx1
    obtain ⟨aL, nL, cL, g1, g2, g3⟩ := h1.c1
    have hl := ownsS_length g2
    have hlt1 := h1.lt
    have HG1 := Lib.hid hg1
    have H1 := Lib.hid h1
    have k1 : (nL : Int) ≤ v := by omega
    have q2 := h1.c2
    have q3 := h1.f2
    clear hl g2 g3 h1 hg1 hv
    go_wp2
    go_ret
    exact ⟨rfl, H1.out.setBad true, grown_trans' HG1.out (grown_set _ _ _), (cell_oth _ _ _ _ _ (by decide)).trans HX1.out⟩
end Go.Proofs.YtbfjhjkllaceaaaGreatDoor
