/- Contract of the program's UnescapeText. -/
import Derived.Test.YtkpbamjmdcbflaaDoorSign2
import Derived.Test.YtkpbamjmdcbflaaDoorBuild
import Derived.Test.YtkpbamjmdcbflaaDoorImplPoints
namespace Go.Proofs.YtkpbamjmdcbflaaDoor
open Go.ChangeShapes Go.WideShapes Go.ChangeAt Go.RowKit Go.Shelf
set_option linter.unusedVariables false

/-- a struct of a code and a text is handed back -/
def ResT (w : World) (c : Int) (l : List UInt8) (e : Ending) (w' : World) : Prop := e = .returned (.agg #[.int .i64 c, .string (bst l)]) ∧ Below w.heap.size w w'
theorem IsB.below {w w' : World} {B b : Nat} {bs : List Value} (h : IsB w B b bs) (hb : Below w.heap.size w w') : IsB w' B b bs := by
  have key : ∀ p, Lib.BuilderAtF 36 5 B b p bs w → Lib.BuilderAtF 36 5 B b p bs w' := by
    rintro p ⟨hB, v, hbk, hown, hne⟩
    have hlt : b < w.heap.size := (Array.getElem?_eq_some_iff.1 hbk).1
    refine ⟨hB, v, (hb.block b hlt).trans hbk, hown.kept (row := none) ⟨hb.os, hb.tape, hb.output, hb.size, fun i hi _ => hb.block i hi⟩ ?_, hne⟩
    cases hv : v.ownBlock with
    | none => exact .inl rfl
    | some g => exact .inr (by simp)
  rcases h with h | h
  · exact .inl (key _ h)
  · exact .inr (key _ h)
theorem iter_below {w w' : World} {k : Nat} {s : ByteArray} {pos : Nat} (h : w.heap[k]? = some (.stringIter s pos)) (hb : Below w.heap.size w w') : w'.heap[k]? = some (.stringIter s pos) :=
  (hb.block k (Array.getElem?_eq_some_iff.1 h).1).trans h

theorem pts_ok {l : List UInt8} (h : l.length ≤ 600) : ptsCode l = if okB l then 0 else 5 := by
  unfold ptsCode pts okB
  rw [if_neg (by omega)]
  cases (strm l).all (·.2) <;> simp
theorem not_ok_un {l : List UInt8} (h : okB l = false) : unL l = none := by
  have hc : charsB l = false := by
    cases hc : charsB l
    · rfl
    · rw [ok_of_chars hc] at h
      cases h
  unfold unL
  rw [hc]
  rfl
theorem charB_bd {p : Int} (h : charB p = true) : 0 ≤ p ∧ p ≤ 1114111 := by
  have hp : pointB p = true := by
    cases hq : pointB p
    · rw [charB_point p hq] at h
      cases h
    · rfl
  have := (pointB_iff p).1 hp
  omega

theorem fldPts (w : World) (cd : Int) (a : Option Addr) (n c : Nat) : (Instr.field 31 (.agg #[.int .i64 cd, .slice a n c]) 0).run Tryd.prog w = .ok (.int .i64 cd) w := by kernel_rfl
/-- what the loop keeps: the builder in block b, the text's iterator behind it -/
def Reads (s : ByteArray) (w0 : World) (b : Nat) (vb : Value) (wr : World) : Prop :=
  ∃ (pos behind : Nat) (acc : List UInt8), vb = .int .i64 behind ∧ IsB wr b b (Lib.byteCells acc) ∧ wr.heap[b + 1]? = some (.stringIter s pos) ∧ Below b w0 wr ∧ UnRel s.data.toList pos behind acc
theorem byteCells_len (l : List UInt8) : (Lib.byteCells l).length = l.length := Lib.byteCells_length l

set_option maxRecDepth 100000 in
set_option maxHeartbeats 8000000 in
theorem implUn_ok (s : ByteArray) (hs : s.size ≤ 600) (hok : okB s.data.toList = true) (w : World) (hT : Tabs w) (sa : Addr) (hse : SynErr w sa) (cd : Int) (tx : List UInt8)
    (hcd : cd = if (unL s.data.toList).isSome then 0 else 5) (htx : tx = (unL s.data.toList).getD []) :
    Calls Tryd.prog 5 #[.string s] w (ResT w cd tx) := by
  have hl : s.data.toList.length = s.size := by simp
  have hpc := pts_ok (l := s.data.toList) (by omega)
  rw [hok] at hpc
  simp only [if_true] at hpc
  have KP := Lib.hid (fun W hW => implPointsOf_any s (by unfold maxLen; omega) W hW)
  unfold OwnsRes2 at KP
  rw [hpc] at KP
  have HT := Lib.hid hT
  have HSE := Lib.hid hse
  have HR0 := Lib.hid (UnRel.start s.data.toList hok)
  have HCD := Lib.hid hcd
  have HTX := Lib.hid htx
  have HL := Lib.hid hl
  have F0 := fldPts
  clear hpc hT hse hok hcd htx hl
  go_enter Tryd.func5, Tryd.ntmps5
  go_wp2_with fail
  refine (KP.out _ (tabs_kept HT.out (below1 w _))).mono ?_
  rintro e w1 ⟨a1, n1, c1, rfl, ho1, hb1⟩
  clear ho1
  have hz1 := hb1.size
  simp at hz1
  have HB1 := Lib.hid ((below1 w _).trans (hb1.mono (by simp)))
  obtain ⟨hc, hf⟩ := bcell hb1
  have r0 : w1.cell? ⟨w.heap.size, 0, none⟩ = some (.int .i64 0) := by rw [hc _ _ (by simp)]; simp
  have r1 : w1.cell? ⟨w.heap.size, 1, none⟩ = some (.string ⟨#[]⟩) := by rw [hc _ _ (by simp)]; simp
  have r2 : w1.frozen? ⟨w.heap.size, 0, none⟩ = false := by rw [hf _ _ (by simp)]; simp
  have r3 : w1.frozen? ⟨w.heap.size, 1, none⟩ = false := by rw [hf _ _ (by simp)]; simp
  have R0 := Lib.hid r0
  have R1 := Lib.hid r1
  have R2 := Lib.hid r2
  have R3 := Lib.hid r3
  clear hc hf hb1 r0 r1 r2 r3
  go_wp2
  go_loopw [4] (fun vb wr => Reads s w1 w1.heap.size vb wr) (fun _ wr => s.size - wr.iterPos (w1.heap.size + 1))
  case atStart =>
    refine ⟨0, 0, [], rfl, (Lib.IsBuilderF.of (Lib.fresh_isBuilder _ _ w1)).alloc _, ?_, below2 w1 _ _, HR0.out⟩
    have := World.iter_heap (w1.alloc (.cells #[.pointer none, .slice none 0 0] 36)) s 0
    simpa using this
  case round =>
    obtain ⟨pos, behind, acc, rfl, hI, hit, hbw, hrel⟩ := hrel
    have hsz : w1.heap.size + 1 < wr.heap.size := (Array.getElem?_eq_some_iff.1 hit).1
    have hle1 := hrel.le1
    have hle2 := hrel.le2
    rw [HL.out] at hle1 hle2
    have q0 : (pos : Int) ≤ 600 := by omega
    have q1 : (behind : Int) ≤ 600 := by omega
    have HREL := Lib.hid hrel
    have HIT := Lib.hid hit
    have HI := Lib.hid hI
    have HBW := Lib.hid hbw
    clear hrel hit hI hbw
    by_cases hp : pos < s.size
    · have hnx : ∀ ty, (Instr.next (.pointer (some ⟨w1.heap.size + 1, 0, none⟩)) true ty).run Tryd.prog wr = _ := fun ty => Lib.run_next_any_at wr (w1.heap.size + 1) s pos ty HIT.out hp
      simp only [← Lib.decodeL_drop] at hnx
      have hd1 : (Lib.decodeL (s.data.toList.drop pos)).1 = firstR (s.data.toList.drop pos) := rfl
      have hd2 : (Lib.decodeL (s.data.toList.drop pos)).2 = firstK (s.data.toList.drop pos) := rfl
      simp only [hd1, hd2] at hnx
      have hit2 := Lib.iterAt_heap wr (w1.heap.size + 1) s pos (pos + firstK (s.data.toList.drop pos)) HIT.out
      have hI2 := HI.out.iterAt HIT.out (pos + firstK (s.data.toList.drop pos))
      have hbw2 := Lib.below_iterAt HBW.out (k := w1.heap.size + 1) (by omega) s (pos + firstK (s.data.toList.drop pos))
      have hpl : pos < s.data.toList.length := by rw [HL.out]; exact hp
      have hrle : firstR (s.data.toList.drop pos) ≤ 1114111 := Lib.decodeL_rune _
      generalize wr.iterAt (w1.heap.size + 1) s (pos + firstK (s.data.toList.drop pos)) = wq at hnx hit2 hI2 hbw2
      have HIT2 := Lib.hid hit2
      have HI2 := Lib.hid hI2
      have HBW2 := Lib.hid hbw2
      clear hd1 hd2 hit2 hI2 hbw2
      by_cases hlt : pos < behind
      · obtain ⟨k1, rel2⟩ := HREL.out.skip hpl hlt
        rw [k1] at HIT2
        have REL2 := Lib.hid rel2
        have hlt' : (pos : Int) < (behind : Int) := by omega
        clear k1 rel2 hrle
        generalize firstR (s.data.toList.drop pos) = r at hnx
        go_wp2
        go_roundw
        case rel => exact ⟨pos + 1, behind, acc, rfl, HI2.out, HIT2.out, HBW2.out, REL2.out⟩
        case measure => simp only [World.iterPos, HIT2.out, HIT.out]; omega
      · have hge : (behind : Int) ≤ (pos : Int) := by omega
        have hex : (s.extract pos s.size).data.toList = s.data.toList.drop pos := Lib.extract_to_end _ _
        have hes : (s.extract pos s.size).size = s.size - pos := by rw [ByteArray.size_extract]; omega
        have hwq : Below w.heap.size w wq := HB1.out.trans (HBW2.out.mono (by omega))
        have KA := Lib.hid (signAhead_any (s.extract pos s.size) (by omega) (by omega) (by rw [hex]; exact HREL.out.ok) wq sa (HSE.out.kept hwq))
        rw [hex] at KA
        unfold TwoInts at KA
        have q2 : (pos : Int) ≤ (s.size : Int) := by omega
        have hb2 : behind ≤ pos := by omega
        cases hcb : charB (aheadP (s.data.toList.drop pos))
        · have hbad := HREL.out.bad hpl hb2 hcb
          have e1 : cd = 5 := by rw [HCD.out, hbad]; rfl
          have e2 : tx = [] := by rw [HTX.out, hbad]; rfl
          subst e1
          subst e2
          have HCB := Lib.hid hcb
          generalize aheadP (s.data.toList.drop pos) = p at KA HCB
          generalize (aheadK (s.data.toList.drop pos) : Int) = ak at KA
          generalize firstR (s.data.toList.drop pos) = r at KA hnx hrle
          have hlt' : ((pos : Int) < (behind : Int)) = False := by simp; omega
          have HWQ := Lib.hid hwq
          clear hbad hcb hex hes hwq hlt hlt'
          go_wp2_with fail
          refine KA.out.mono ?_
          rintro e w2 ⟨rfl, hb2'⟩
          have HB2 := Lib.hid hb2'
          clear hb2'
          go_wp2_with fail
          refine (implIsChar_any p _).mono ?_
          rintro e w3 ⟨rfl, hb3⟩
          rw [HCB.out]
          have HB3 := Lib.hid (HB2.out.trans (hb3.mono HB2.out.size))
          have HB4 := Lib.hid (HBW2.out.trans (HB3.out.mono HBW2.out.size))
          obtain ⟨hc, hf⟩ := bcell HB4.out
          have r0 : w3.cell? ⟨w.heap.size, 0, none⟩ = some (.int .i64 0) := by rw [hc _ _ (by omega)]; exact R0.out
          have r1 : w3.cell? ⟨w.heap.size, 1, none⟩ = some (.string ⟨#[]⟩) := by rw [hc _ _ (by omega)]; exact R1.out
          have r2 : w3.frozen? ⟨w.heap.size, 0, none⟩ = false := by rw [hf _ _ (by omega)]; exact R2.out
          have r3 : w3.frozen? ⟨w.heap.size, 1, none⟩ = false := by rw [hf _ _ (by omega)]; exact R3.out
          clear hc hf hb3
          go_wp2
          exact bodyPost_ret (v := .agg #[.int .i64 5, .string (bst [])]) (by simp [results, Tryd.results5, go_sem, r0, r1, bst]) rfl
            ⟨rfl, ((HB1.out.trans (HB4.out.mono (by omega))).setCell (p := ⟨w.heap.size, 0, none⟩) (Nat.le_refl _) _).setCell (p := ⟨w.heap.size, 1, none⟩) (Nat.le_refl _) _⟩
        · obtain ⟨rel2, hk1⟩ := HREL.out.good hpl hb2 hcb
          have hbd := charB_bd hcb
          have hal : acc.length ≤ 4 * pos := by
            have := HREL.out.len
            rw [show max pos behind = pos by omega] at this
            exact this
          have hak := rel2.le2
          rw [HL.out] at hak
          have HCB := Lib.hid hcb
          have REL2 := Lib.hid rel2
          generalize aheadP (s.data.toList.drop pos) = p at KA HCB REL2 hbd
          generalize aheadK (s.data.toList.drop pos) = ak at KA REL2 hak
          generalize firstR (s.data.toList.drop pos) = r at KA hnx hrle
          generalize firstK (s.data.toList.drop pos) = fk at REL2 HIT2 hk1
          obtain ⟨p0, p1⟩ := hbd
          have ha0 : (ak : Int) ≤ 600 := by omega
          have HWQ := Lib.hid hwq
          clear rel2 hcb hex hes hwq hlt
          go_wp2_with fail
          refine KA.out.mono ?_
          rintro e w2 ⟨rfl, hb2'⟩
          have HB2 := Lib.hid hb2'
          clear hb2'
          go_wp2_with fail
          refine (implIsChar_any p _).mono ?_
          rintro e w3 ⟨rfl, hb3⟩
          rw [HCB.out]
          have HB3 := Lib.hid (HB2.out.trans (hb3.mono HB2.out.size))
          have HB4 := Lib.hid (HBW2.out.trans (HB3.out.mono HBW2.out.size))
          clear hb3
          go_wp2_with fail
          refine (writeRune_any w1.heap.size w1.heap.size (Lib.byteCells acc) p (by omega) (by omega) _ (IsB.below HI2.out HB3.out) (by rw [byteCells_len]; omega) (by have := HB4.out.size; omega)).mono ?_
          rintro e w4 ⟨rfl, h4, b4, k4⟩
          have H4 := Lib.hid h4
          have B4 := Lib.hid b4
          have HIT4 := Lib.hid (k4.iter (iter_below HIT2.out HB3.out) (by omega))
          clear h4 b4 k4
          generalize (Lib.runeCells p).length = rn
          go_wp2
          go_roundw
          case rel => exact ⟨pos + fk, pos + ak, acc ++ Lib.encodeRune p, by go_num, .inr (by rw [Lib.byteCells_append, Lib.byteCells_encodeRune]; exact H4.out), HIT4.out, HB4.out.trans B4.out, REL2.out⟩
          case measure => simp only [World.iterPos, HIT4.out, HIT.out]; omega
    · have hnx : ∀ ty, (Instr.next (.pointer (some ⟨w1.heap.size + 1, 0, none⟩)) true ty).run Tryd.prog wr = _ := fun ty => Lib.run_next_end_at wr (w1.heap.size + 1) s pos ty HIT.out hp
      have hdone := HREL.out.done (by rw [HL.out]; omega)
      have e1 : cd = 0 := by rw [HCD.out, hdone]; rfl
      have e2 : tx = acc := by rw [HTX.out, hdone]; rfl
      subst e1
      subst e2
      have hw1 : w1.heap.size ≤ wr.heap.size := by omega
      have hb0 := bcell HBW.out
      clear hdone
      go_wp2_with fail
      refine (Tryd.Builder_String_any_k w1.heap.size w1.heap.size tx _ HI.out hw1).mono ?_
      rintro e W1 ⟨rfl, _, b1, _⟩
      have HBB := Lib.hid (HBW.out.trans b1)
      obtain ⟨hc, hf⟩ := bcell HBB.out
      have r0 : W1.cell? ⟨w.heap.size, 0, none⟩ = some (.int .i64 0) := by rw [hc _ _ (by omega)]; exact R0.out
      have r1 : W1.cell? ⟨w.heap.size, 1, none⟩ = some (.string ⟨#[]⟩) := by rw [hc _ _ (by omega)]; exact R1.out
      have r2 : W1.frozen? ⟨w.heap.size, 0, none⟩ = false := by rw [hf _ _ (by omega)]; exact R2.out
      have r3 : W1.frozen? ⟨w.heap.size, 1, none⟩ = false := by rw [hf _ _ (by omega)]; exact R3.out
      clear hc hf b1 hb0
      go_wp2
      exact bodyPost_ret (v := .agg #[.int .i64 0, .string (bst tx)]) (by simp [results, Tryd.results5, go_sem, r0, r1, bst]) rfl
        ⟨rfl, ((HB1.out.trans (HBB.out.mono (by omega))).setCell (p := ⟨w.heap.size, 0, none⟩) (Nat.le_refl _) _).setCell (p := ⟨w.heap.size, 1, none⟩) (Nat.le_refl _) _⟩

set_option maxHeartbeats 800000 in
/-- the program's UnescapeText -/
theorem implUnescape_any (s : ByteArray) (hs : s.size ≤ maxLen) (w : World) (hT : Tabs w) (sa : Addr) (hse : SynErr w sa) :
    Calls Tryd.prog 5 #[.string s] w (ResT w (unCode s.data.toList) (unText s.data.toList)) := by
  have hl : s.data.toList.length = s.size := by simp
  unfold unCode unText
  rw [hl]
  by_cases h : 600 < s.size
  · rw [if_pos h, if_pos h]
    unfold maxLen at hs
    clear hl hT hse
    go_enter Tryd.func5, Tryd.ntmps5
    go_wp2
    exact bodyPost_ret (v := .agg #[.int .i64 2, .string (bst [])]) (by simp [results, Tryd.results5, go_sem, bst]) rfl ⟨rfl, below1 w _⟩
  · rw [if_neg h, if_neg h]
    cases hok : okB s.data.toList
    · have hn := not_ok_un hok
      rw [hn]
      simp only [Option.isSome_none, Option.getD_none, Bool.false_eq_true, if_false]
      have hpc := pts_ok (l := s.data.toList) (by omega)
      rw [hok] at hpc
      simp only [Bool.false_eq_true, if_false] at hpc
      have KP := Lib.hid (fun W hW => implPointsOf_any s hs W hW)
      unfold OwnsRes2 at KP
      rw [hpc] at KP
      have HT := Lib.hid hT
      have F0 := fldPts
      unfold maxLen at hs
      have h' : (s.size : Int) ≤ 600 := by omega
      clear hpc hT hse hok hl hn h
      go_enter Tryd.func5, Tryd.ntmps5
      go_wp2_with fail
      refine (KP.out _ (tabs_kept HT.out (below1 w _))).mono ?_
      rintro e w1 ⟨a1, n1, c1, rfl, ho1, hb1⟩
      clear ho1
      have hz1 := hb1.size
      simp at hz1
      obtain ⟨hc, hf⟩ := bcell hb1
      go_wp2
      exact bodyPost_ret (v := .agg #[.int .i64 5, .string (bst [])]) (by simp [results, Tryd.results5, go_sem, bst, hc]) rfl
        ⟨rfl, (((below1 w _).trans (hb1.mono (by simp))).setCell (p := ⟨w.heap.size, 0, none⟩) (Nat.le_refl _) _).setCell (p := ⟨w.heap.size, 1, none⟩) (Nat.le_refl _) _⟩
    · exact implUn_ok s (by omega) hok w hT sa hse _ _ rfl rfl
end Go.Proofs.YtkpbamjmdcbflaaDoor
