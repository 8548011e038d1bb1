/- Contracts of the model's lists of points, and of its two faces. -/
import Derived.Test.YtlhflkpbccbofaaDoorSpecPts
namespace Go.Proofs.YtlhflkpbccbofaaDoor
open Go.ChangeShapes Go.WideShapes Go.ChangeAt Go.RowKit
set_option linter.unusedVariables false

theorem i64Info : (Tryd.prog.info? 2).map (fun i => (i.zero, i.size, i.bytes)) = some (some (.int .i64 0), 1, 8) := by kernel_rfl

/-- a list of points and whether it is so -/
def PtsRes (w : World) (l : List UInt8) (en : Ending) (w' : World) : Prop :=
  ∃ a n c, en = .returned (.tuple #[.slice a n c, .bool (pts l).isSome]) ∧ w'.ownsRow w.heap.size 2 1 (.slice a n c) n (((pts l).getD []).map (Value.int .i64)) ∧ Below w.heap.size w w'

theorem pts_bad {l u : List UInt8} {done : List Int} (h : strm l = done.map (fun p => (p, true)) ++ strm u) (hu : u ≠ []) (hb : badB u = true) : pts l = none := by
  unfold pts
  rw [h, strm_bad u hu hb]
  simp
theorem pts_end {l : List UInt8} {done : List Int} (h : strm l = done.map (fun p => (p, true)) ++ strm []) : pts l = some done := by
  unfold pts
  rw [h, strm_nil]
  simp [Function.comp_def]
theorem strm_next {l u : List UInt8} {done : List Int} (h : strm l = done.map (fun p => (p, true)) ++ strm u) (hu : u ≠ []) (hb : badB u = false) :
    strm l = (done ++ [((Lib.decodeL u).1 : Int)]).map (fun p => (p, true)) ++ strm (u.drop (Lib.decodeL u).2) := by
  rw [h, strm_step u hu hb]
  simp
theorem strm_done_le {l u : List UInt8} {done : List Int} (h : strm l = done.map (fun p => (p, true)) ++ strm u) : done.length ≤ l.length := by
  have h1 := strm_len l
  rw [h] at h1
  simp at h1
  omega

set_option maxHeartbeats 1600000 in
theorem l1Points_any (s : ByteArray) (hs : s.size ≤ 1048576) (w : World) :
    Calls Tryd.prog 60 #[.string s] w (PtsRes w s.data.toList) := by
  obtain ⟨i0, hi, hz0, hz1, hz2⟩ := info_parts i64Info
  go_enter Tryd.func60, Tryd.ntmps60
  go_wp2
  go_loopw [0, 4] (fun t v wr => ∃ (u : ByteArray) (done : List Int) (a : Option Addr) (n c : Nat), t = .string u ∧ u.size ≤ s.size ∧ v = .slice a n c ∧ strm s.data.toList = done.map (fun p => (p, true)) ++ strm u.data.toList ∧
      wr.ownsRow w.heap.size 2 1 (.slice a n c) n (done.map (Value.int .i64)) ∧ Below w.heap.size w wr)
    (fun t _ _ => strSize t)
  case atStart => exact ⟨s, [], _, _, _, rfl, Nat.le_refl _, rfl, rfl, lit_owns w _ .i64 [] 0 rfl (by decide), below1 _ _⟩
  case round =>
    obtain ⟨u, done, a, n, c, rfl, hu, rfl, hst, ho, hb⟩ := hrel
    have hnl := owns_length ho
    have hdl := strm_done_le hst
    rw [show s.data.toList.length = s.size by simp] at hdl
    have HST := Lib.hid hst
    have HO := Lib.hid ho
    have HB := Lib.hid hb
    have HNL := Lib.hid hnl
    have hn1 : n ≤ s.size := by omega
    clear hst ho hb hnl hdl
    by_cases hlt : 0 < u.size
    · have hne : u.data.toList ≠ [] := by
        intro h
        have := congrArg List.length h
        rw [show u.data.toList.length = u.size by simp] at this
        change u.size = 0 at this
        omega
      have hle := Lib.decodeL_le u.data.toList hne
      have hwd := Lib.decodeL_width u.data.toList
      rw [show u.data.toList.length = u.size by simp] at hle
      have HNE := Lib.hid hne
      clear hne
      cases hbd : badB u.data.toList
      · have HBD := Lib.hid hbd
        have e1 : firstPt u.data.toList = ((Lib.decodeL u.data.toList).1 : Int) := by simp [firstPt, hbd]
        have e2 : firstSz u.data.toList = (Lib.decodeL u.data.toList).2 := by simp [firstSz, hbd]
        have K := Lib.hid (l1First_any u (by unfold maxLen; omega) hlt)
        rw [e1, e2] at K
        clear e1 e2 hbd
        have HN := Lib.hid (strm_next HST.out HNE.out HBD.out)
        have hdrop : (u.extract (Lib.decodeL u.data.toList).2 u.size).data.toList = u.data.toList.drop (Lib.decodeL u.data.toList).2 := Lib.extract_to_end _ _
        generalize ((Lib.decodeL u.data.toList).1 : Int) = pt at K HN
        generalize (Lib.decodeL u.data.toList).2 = k at K HN hle hwd hdrop
        have HD := Lib.hid hdrop
        clear hdrop
        have hk0 : ((k : Int) == 0) = false := by rw [beq_eq_false_iff_ne]; omega
        have hk1 : (0 : Int) ≤ (k : Int) := by omega
        have hk2 : (k : Int) ≤ (u.size : Int) := by omega
        go_wp2_with fail
        refine (K.out _).mono ?_
        rintro e w1 ⟨rfl, hb1⟩
        have HO1 := Lib.hid (owns_below HO.out hb1)
        have HB1 := Lib.hid (HB.out.trans (hb1.mono HB.out.size))
        clear hb1
        go_wp2_with (at_builtin; refine wpList_append_own _ rfl _ _ 97 rfl w.heap.size 2 i0 (.int .i64 0) 1 8 Tryd.underlying97 hi hz0 hz1 hz2 rfl (by decide) _ _ _ rfl (HO1.out.alloc _) ⟨w1.heap.size, 0, none⟩ 1 1 [.int .i64 pt] rfl rfl ?c1 ?c2 ?c3 ?c4 ?c5 ?_)
        case c1 =>
          intro j v hj
          match j, hj with
          | 0, hj => simp at hj; subst hj; simp [Addr.add]
        case c2 => intro v hv; simp at hv; subst hv; rfl
        case c3 => unfold maxLen; omega
        case c4 => omega
        case c5 => have := HB1.out.size; simp; omega
        intro v' w2 hown' hgrow _
        obtain ⟨a', c', rfl⟩ := owns_slice hown'
        have HB2 := Lib.hid (below_appended HB1.out HO1.out hgrow)
        have HO2 := Lib.hid hown'
        clear hown' hgrow
        go_wp2
        go_roundw
        case rel =>
          refine ⟨u.extract k u.size, done ++ [pt], a', _, c', rfl, ?_, rfl, ?_, ?_, HB2.out⟩
          · rw [ByteArray.size_extract]; omega
          · rw [HD.out]; exact HN.out
          · rw [List.map_append]; exact HO2.out
        case measure => simp only [strSize, ByteArray.size_extract]; omega
      · have HBD := Lib.hid hbd
        have e1 : firstPt u.data.toList = 0 := by simp [firstPt, hbd]
        have e2 : firstSz u.data.toList = 0 := by simp [firstSz, hbd]
        have K := Lib.hid (l1First_any u (by unfold maxLen; omega) hlt)
        rw [e1, e2] at K
        clear e1 e2 hbd
        go_wp2_with fail
        refine (K.out _).mono ?_
        rintro e w1 ⟨rfl, hb1⟩
        go_wp2
        go_ret2
        have hp := pts_bad HST.out HNE.out HBD.out
        exact ⟨none, 0, 0, by rw [hp]; rfl, by rw [hp]; exact World.ownsRow_nil _ _ _ _, HB.out.trans (hb1.mono HB.out.size)⟩
    · have hu0 : u.data.toList = [] := by
        apply List.eq_nil_of_length_eq_zero
        rw [show u.data.toList.length = u.size by simp]
        omega
      have HU := Lib.hid hu0
      clear hu0
      go_wp2
      go_ret2
      have hst := HST.out
      rw [HU.out] at hst
      have hp := pts_end hst
      exact ⟨a, n, c, by rw [hp]; rfl, by rw [hp]; exact HO.out, HB.out⟩
end Go.Proofs.YtlhflkpbccbofaaDoor
