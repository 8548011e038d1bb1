/- Contract of the program's TextFault. -/
import Derived.Test.YticpebpicdboaaaGreatDoorGQ8
import Derived.Test.YticpebpicdboaaaGreatDoorGQ3
import Derived.WalkLawsBesides
import Derived.Test.YticpebpicdboaaaGreatDoorGQ4
namespace Go.Proofs.YticpebpicdboaaaGreatDoor
open Go.RowKit Go.Shelf
set_option linter.unusedVariables false

attribute [local go_sem] Oper.semAt_some

theorem bool_int {a b : Int} (h : a = b) : Ending.returned (.int .i64 a) = .returned (.int .i64 b) := by rw [h]
def cfault (b : Bool) : Int := if b then 0 else 5
theorem prefix_bad {l : List UInt8} {pre : List (Int × Bool)} (hp : pre <+: strm l) (hb : pre.all goodB = false) : charsB l = false := by
  unfold charsB
  rw [Bool.eq_false_iff] at hb ⊢
  intro h
  apply hb
  rw [List.all_eq_true] at h ⊢
  exact fun x hx => h x (hp.subset hx)

set_option maxRecDepth 100000 in
set_option maxHeartbeats 4000000 in
theorem implTextFault_in (s : ByteArray) (hs : s.size ≤ 60) (w : World) (hT : Tabs w) :
    CallsIn Fence.wide 6 Tryz.prog 94 #[.string s] w fun e W' => e = .returned (.int .i64 (cfault (charsB s.data.toList))) ∧ Below w.heap.size w W' := by
  refine callsIn_of_wp_marks Tryz.func94 rfl trivial ?_ rfl
  simp only [Tryz.ntmps94, List.size_toArray, List.length_cons, List.length_nil, Nat.reduceAdd, Nat.reduceSub, Array.replicate_succ, Array.replicate_zero, List.push_toArray, List.append_toArray, List.nil_append, List.cons_append]
  gi_wp2_with (refine ⟨trivial, ?_⟩; gi_at_call 167; refine (pointsIn_in _ _ _).mono ?_; rintro e w' ⟨rfl, rfl⟩)
  have bR := Boxed.new w 2 (.int .i64 0)
  have bT := Boxed.new (w.alloc (.cells #[.int .i64 0] 2)) 9 (.string s)
  rw [World.size_alloc] at bT
  have hB0 : Below w.heap.size w ((w.alloc (.cells #[.int .i64 0] 2)).alloc (.cells #[.string s] 9)) := below2 w _ _
  refine wpIn_rangeFunc_ownF rfl (by omega) (gf := 239) (lb := #[.pointer (some ⟨w.heap.size + 1, 0, none⟩)]) rfl trivial (enters_of Tryz.func239 (by kernel_rfl) rfl)
    (iter_stops _ (by omega) (w.heap.size + 1) w.heap.size s (by omega) (gs_of_tabs hT) _ (by simp) (by simp; omega) bT.cell (tabs_kept hT hB0)) (fun h k => KpT.trans h k) (kpT_b (by simp; omega) (by simp)) (Below.refl _ _) (fun _ => rfl)
    (fun pre W => (pre.all goodB = true ∧ Boxed W w.heap.size 2 (.int .i64 0) ∧ Boxed W (w.heap.size + 1) 9 (.string s)) ∧ Below w.heap.size w W)
    (fun c pre W => (c = .ret ∧ pre.all goodB = false ∧ Boxed W w.heap.size 2 (.int .i64 5)) ∧ Below w.heap.size w W)
    (OwnFrom.and (Own.from (fun s A B row hs hg hr => ⟨hs.1, hs.2.1.kept hg (fun e => by obtain ⟨o, ho, hc⟩ := hr _ e.symm; rw [show A.heap[_]? = _ from hs.2.1] at ho; cases ho; cases hc), hs.2.2.kept hg (fun e => by obtain ⟨o, ho, hc⟩ := hr _ e.symm; rw [show A.heap[_]? = _ from hs.2.2] at ho; cases ho; cases hc)⟩) _) (ownFrom_below (Nat.le_refl _) (by simp; omega)))
    (fun c => OwnFrom.and (Own.from (fun s A B row hs hg hr => ⟨hs.1, hs.2.1, hs.2.2.kept hg (fun e => by obtain ⟨o, ho, hc⟩ := hr _ e.symm; rw [show A.heap[_]? = _ from hs.2.2] at ho; cases ho; cases hc)⟩) _) (ownFrom_below (Nat.le_refl _) (by simp; omega)))
    ⟨⟨rfl, bR.alloc _, bT⟩, hB0⟩
    (fun x => { tmps := #[.string s, undef, .pointer (some ⟨w.heap.size, 0, none⟩), .int .i64 x.1, .bool x.2, .string s, .int .i64 s.size, .bool (decide ((60 : Int) < (s.size : Int))), .string s, .func (.func 239) #[] #[.pointer (some ⟨w.heap.size + 1, 0, none⟩)], .int .i64 x.1, .bool x.2, undef, undef, undef, undef, undef, undef, undef], defers := [] }) ?assign ?body ?done ?stop
  case assign =>
    intro l x W K hK
    unfold encP
    gi_wp2
    exact hK
  case body =>
    rintro l pre ⟨p, ok⟩ W ⟨⟨hall, hR, hTx⟩, hB⟩ _
    have hc := hR.cell
    have hf := hR.frozen
    have HA := Lib.hid hall
    clear hall
    cases ok
    · gi_wp2
      refine ⟨trivial, ?_⟩
      gi_wp2
      exact ⟨KeepsOthers.setCell _ _ _, ⟨rfl, by rw [List.all_append, HA.out]; rfl, hR.set _⟩, hB.setCell (p := ⟨w.heap.size, 0, none⟩) (Nat.le_refl _) _⟩
    · cases hcb : charB p
      · have HC := Lib.hid hcb
        gi_wp2_with (refine ⟨trivial, ?_⟩; gi_at_call 168; refine (CallsIn.inRound l (callsIn_wide.2 (implIsChar_any p _))).mono ?_; rintro e w1 ⟨rfl, hb1⟩; have hR1 : Boxed w1 w.heap.size 2 (.int .i64 0) := (hb1.block _ hR.lt).trans hR; have hc1 := hR1.cell; have hf1 := hR1.frozen)
        exact ⟨(keeps_below hb1).trans (KeepsOthers.setCell _ _ _), ⟨rfl, by rw [List.all_append, HA.out]; simp [goodB, HC.out], hR1.set _⟩, (hB.trans (hb1.mono hB.size)).setCell (p := ⟨w.heap.size, 0, none⟩) (Nat.le_refl _) _⟩
      · have HC := Lib.hid hcb
        gi_wp2_with (refine ⟨trivial, ?_⟩; gi_at_call 168; refine (CallsIn.inRound l (callsIn_wide.2 (implIsChar_any p _))).mono ?_; rintro e w1 ⟨rfl, hb1⟩)
        exact ⟨keeps_below hb1, KpT.of_below hb1 hB.size hTx.lt, ⟨by rw [List.all_append, HA.out]; simp [goodB, HC.out], (hb1.block _ hR.lt).trans hR, (hb1.block _ hTx.lt).trans hTx⟩, hB.trans (hb1.mono hB.size)⟩
  case done =>
    rintro D ys W hD rfl ⟨⟨hall, hR, hTx⟩, hB⟩ hK
    have hc := hR.cell
    have hf := hR.frozen
    gi_wp2
    have hK' := (KeepsOthers.setCell W ⟨w.heap.size, 0, none⟩ (.int .i64 0)).same D _ hK rfl
    refine ⟨by simp, .inl ⟨_, _, rfl, run_takeDeferred hK', ?_⟩⟩
    have hc5 := cell_kept (hR.set (.int .i64 0)).cell (grownBy_putObj' _ D (.deferred none)) (fun r e => by cases e; exact ⟨_, hK', rfl⟩)
    refine ⟨.int .i64 0, ?_, bool_int (by unfold charsB; rw [hall]; rfl), (hB.setCell (p := ⟨w.heap.size, 0, none⟩) (Nat.le_refl _) _).trans (belowK_b (w := w) (Nat.le_refl _) _ D _ _ (by simp at hD; omega) hK' rfl rfl)⟩
    simp [results, Tryz.f94, go_sem, hc5]
  case stop =>
    rintro D c pre W hD hpre ⟨⟨rfl, hbad, hR⟩, hB⟩ hK
    gi_wp2
    refine ⟨by simp, .inl ⟨_, _, rfl, run_takeDeferred hK, ?_⟩⟩
    have hc5 := cell_kept hR.cell (grownBy_putObj' _ D (.deferred none)) (fun r e => by cases e; exact ⟨_, hK, rfl⟩)
    refine ⟨.int .i64 5, ?_, bool_int (by rw [prefix_bad hpre hbad]; rfl), hB.trans (belowK_b (w := w) (Nat.le_refl _) W D _ _ (by simp at hD; omega) hK rfl rfl)⟩
    simp [results, Tryz.f94, go_sem, hc5]

/-- the program's TextFault -/
theorem implTextFault_any (s : ByteArray) (hs : s.size ≤ maxLen) (w : World) (hT : Tabs w) :
    Calls Tryz.prog 94 #[.string s] w fun e w' => e = .returned (.int .i64 (textFault s.data.toList)) ∧ Below w.heap.size w w' := by
  have hl : s.data.toList.length = s.size := by simp
  unfold textFault
  rw [hl]
  by_cases h : 60 < s.size
  · rw [if_pos h]
    clear hl
    unfold maxLen at hs
    go_enter Tryz.func94, Tryz.ntmps94
    go_wp2
    exact bodyPost_ret (v := .int .i64 2) (by simp [results, Tryz.results94, go_sem]) rfl ⟨rfl, below1 w _⟩
  · rw [if_neg h]
    exact callsIn_wide.1 (implTextFault_in s (by omega) w hT)
end Go.Proofs.YticpebpicdboaaaGreatDoor

/- impl.attrsFault. -/
namespace Go.Proofs.YticpebpicdboaaaGreatDoor
open Go.ChangeShapes Go.WideShapes Go.ChangeAt Go.RowKit
set_option linter.unusedVariables false

set_option maxRecDepth 100000 in
set_option maxHeartbeats 1600000 in
theorem implAttrs_any (a : Option Addr) (n c : Nat) (l : List At) (w : World) (hT : Tabs w) (h : AtsAt w a n c l) :
    Calls Tryz.prog 416 #[.slice a n c] w fun e w' => e = .returned (.int .i64 (attrsCode l)) ∧ Below w.heap.size w w' := by
  have hm := h.max
  have HR := Lib.hid h.row
  have HL := Lib.hid h.len
  have HT := Lib.hid hT
  have HZ := Lib.hid h.size
  by_cases h5 : 5 < n
  · have HC := Lib.hid (attrsCode_many (l := l) (by have := h.len; omega))
    clear h hT
    generalize attrsCode l = cd at HC
    go_enter Tryz.func416, Tryz.ntmps416
    go_wp2
    go_ret
    exact ⟨ret_i HC.out.symm, Below.refl _ _⟩
  · have HC1 : Hid (∀ k, k < n → (∀ j, j < k → atFault (l.getD j dAt) = 0) → atFault (l.getD k dAt) ≠ 0 → attrsCode l = atFault (l.getD k dAt)) := Lib.hid fun k hk h0 h1 => attrsCode_at (by have := h.len; omega) (by have := h.len; omega) h0 h1
    have HC2 : Hid ((∀ j, j < n → atFault (l.getD j dAt) = 0) → attrsCode l = if rises l = true then 0 else 6) := Lib.hid fun h0 => attrsCode_end (by have := h.len; omega) (fun j hj => h0 j (by have := h.len; omega))
    clear h hT
    generalize attrsCode l = cd at HC1 HC2
    go_enter Tryz.func416, Tryz.ntmps416
    go_wp2
    go_loopw [12] (fun i wr => ∃ k : Nat, k ≤ n ∧ i = .int .i64 k ∧ (∀ j, j < k → atFault (l.getD j dAt) = 0) ∧ Below w.heap.size w wr) (fun i _ => n - (intOf i).toNat)
    case atStart => exact ⟨0, Nat.zero_le _, rfl, fun j hj => by omega, Below.refl _ _⟩
    case round =>
      obtain ⟨k, hk, rfl, hz, hb⟩ := hrel
      have HK := Lib.hid hz
      clear hz
      by_cases hlt : k < n
      · rcases HR.out with e0 | ⟨b, o, rfl, h3, h4⟩
        · omega
        have d0 := (hb.cell (p := ⟨b, o + k * 2, none⟩) h3).trans (h4 k hlt).1
        have d1 := (hb.cell (p := ⟨b, o + k * 2 + 1, none⟩) h3).trans (h4 k hlt).2
        have HX := Lib.hid (HZ.out k)
        have HY : Hid (atFault (l.getD k dAt) ≠ 0 → cd = atFault (l.getD k dAt)) := Lib.hid (HC1.out k hlt HK.out)
        have HK2 : Hid (atFault (l.getD k dAt) = 0 → ∀ j, j < k + 1 → atFault (l.getD j dAt) = 0) := Lib.hid fun hx j hj => by
          rcases Nat.lt_or_ge j k with h | h
          · exact HK.out j h
          · obtain rfl : j = k := by omega
            exact hx
        have hbb := h3
        clear h4 h3
        generalize l.getD k dAt = x at d0 d1 HX HY HK2
        obtain ⟨s, t⟩ := x
        dsimp only at d0 d1
        have hsm : s.size ≤ 9223372036854775807 := HX.out.1
        have htm : t.size ≤ 9223372036854775807 := HX.out.2
        have HB := Lib.hid hb
        clear hb
        cases hkey : isKeyL s
        · have HKEY := Lib.hid hkey
          go_wp2_with fail
          refine (implIsKey_any s (by unfold maxLen; omega) _).mono ?_
          rintro e w1 ⟨rfl, hb1⟩
          go_wp2
          go_ret
          have e5 : atFault ⟨s, t⟩ = 5 := by unfold atFault; rw [show (⟨s, t⟩ : At).name = s from rfl, HKEY.out]; rfl
          exact ⟨ret_i (by rw [HY.out (by rw [e5]; decide), e5]), below_then HB.out (below_then (below1 _ _) hb1)⟩
        · have HKEY := Lib.hid hkey
          have ef : atFault ⟨s, t⟩ = textFault t.data.toList := by unfold atFault; rw [show (⟨s, t⟩ : At).name = s from rfl, hkey]; rfl
          rw [ef] at HY HK2
          have K := Lib.hid (fun W (hb' : Below w.heap.size w W) => implTextFault_any t (HX.out.2) W (tabs_kept HT.out hb'))
          generalize textFault t.data.toList = tf at HY HK2 K
          by_cases h0 : tf = 0
          · subst h0
            have HK3 := Lib.hid (HK2.out rfl)
            clear HK2 HY ef
            go_wp2_with fail
            refine (implIsKey_any s (by unfold maxLen; omega) _).mono ?_
            rintro e w1 ⟨rfl, hb1⟩
            obtain ⟨hc, hf⟩ := bcell hb1
            have hz := hb1.size
            simp at hz
            have HB1 := Lib.hid (below_then HB.out (below_then (below1 _ _) hb1))
            clear hb1
            go_wp2_with fail
            refine (K.out _ HB1.out).mono ?_
            rintro e w2 ⟨rfl, hb2⟩
            go_wp2
            go_roundw
            case rel => exact ⟨k + 1, by omega, by go_num, HK3.out, below_then HB1.out hb2⟩
            case measure => simp [intOf]; omega
          · have HY2 := Lib.hid (HY.out h0)
            have q1 : (tf != 0) = true := by simpa using h0
            have q2 : (tf == 0) = false := by simpa using h0
            clear HK2 HY ef h0
            go_wp2_with fail
            refine (implIsKey_any s (by unfold maxLen; omega) _).mono ?_
            rintro e w1 ⟨rfl, hb1⟩
            obtain ⟨hc, hf⟩ := bcell hb1
            have hz := hb1.size
            simp at hz
            have HB1 := Lib.hid (below_then HB.out (below_then (below1 _ _) hb1))
            clear hb1
            go_wp2_with fail
            refine (K.out _ HB1.out).mono ?_
            rintro e w2 ⟨rfl, hb2⟩
            go_wp2
            go_ret
            exact ⟨ret_i HY2.out.symm, below_then HB1.out hb2⟩
      · obtain rfl : k = n := by omega
        have HC3 := Lib.hid (HC2.out HK.out)
        clear HC1 HC2 HK
        go_wp2
        go_loopw [6] (fun i wx => ∃ k2 : Nat, 1 ≤ k2 ∧ (k2 ≤ k ∨ k2 = 1) ∧ i = .int .i64 k2 ∧ (∀ j, 1 ≤ j → j < k2 → lessAt (l.getD (j - 1) dAt) (l.getD j dAt) = true) ∧ Below w.heap.size w wx) (fun i _ => k - (intOf i).toNat)
        case atStart => exact ⟨1, Nat.le_refl _, .inr rfl, rfl, fun j h1 h2 => by omega, hb⟩
        case round =>
          obtain ⟨k2, hk1, hk2, rfl, hz2, hb2⟩ := hrel
          have HZ2 := Lib.hid hz2
          clear hz2
          by_cases hlt2 : k2 < k
          · rcases HR.out with e0 | ⟨b, o, rfl, h3, h4⟩
            · omega
            have d0 := (hb2.cell (p := ⟨b, o + k2 * 2, none⟩) h3).trans (h4 k2 hlt2).1
            have d1 := (hb2.cell (p := ⟨b, o + (k2 - 1) * 2, none⟩) h3).trans (h4 (k2 - 1) (by omega)).1
            have HN2 : Hid (lessAt (l.getD (k2 - 1) dAt) (l.getD k2 dAt) = false → cd = 6) := Lib.hid fun e => by
              rw [HC3.out, rises_no hk1 (by have := HL.out; omega) e]; rfl
            have HY2 : Hid (lessAt (l.getD (k2 - 1) dAt) (l.getD k2 dAt) = true → ∀ j, 1 ≤ j → j < k2 + 1 → lessAt (l.getD (j - 1) dAt) (l.getD j dAt) = true) := Lib.hid fun e j h1 h2 => by
              rcases Nat.lt_or_ge j k2 with h | h
              · exact HZ2.out j h1 h
              · obtain rfl : j = k2 := by omega
                exact e
            have q0 : (k2 : Int) < (k : Int) := by omega
            have q1 : (0 : Int) ≤ (k2 : Int) - 1 := by omega
            have q2 : (1 : Int) ≤ (k2 : Int) := by omega
            have q3 : (k2 : Int) - 1 < (k : Int) := by omega
            clear h4 h3
            generalize l.getD k2 dAt = x at d0 HN2 HY2
            generalize l.getD (k2 - 1) dAt = y at d1 HN2 HY2
            obtain ⟨s, t⟩ := x
            obtain ⟨s2, t2⟩ := y
            unfold lessAt at HN2 HY2
            dsimp only at d0 d1 HN2 HY2
            have HB2 := Lib.hid hb2
            clear hb2
            cases hless : Op.bytesLess s2.toList s.toList
            · have HF := Lib.hid (HN2.out hless)
              clear HN2 HY2
              go_wp2_with fail
              go_quiet (fail)
              go_wp2
              go_ret
              exact ⟨ret_i HF.out.symm, below_drewN HB2.out _⟩
            · have HF := Lib.hid (HY2.out hless)
              clear HN2 HY2
              go_wp2_with fail
              go_quiet (fail)
              go_wp2
              go_roundw
              case rel => exact ⟨k2 + 1, by omega, .inl (by omega), by go_num, HF.out, below_drewN HB2.out _⟩
              case measure => simp [intOf]; omega
          · have HF : Hid (cd = 0) := Lib.hid (by
              rw [HC3.out, rises_yes fun i h1 h2 => HZ2.out i h1 (by have := HL.out; omega)]; rfl)
            go_wp2
            go_ret
            exact ⟨ret_i HF.out.symm, hb2⟩

theorem partOf_text (b o : Nat) (x : It) (w : World) (h : ItAt w b o x) (hx : x.name.toList.isEmpty = true) :
    Calls Tryz.prog 70 #[.pointer (some ⟨b, o, none⟩)] w fun e w' => e = .returned (.iface 151 (.agg #[.pointer (some ⟨b, o, none⟩)])) ∧ w' = w := by
  have d3 := h.c3
  clear h
  go_enter Tryz.func70, Tryz.ntmps70
  go_wp2
  go_ret
  exact ⟨rfl, rfl⟩
theorem partOf_elem (b o : Nat) (x : It) (w : World) (h : ItAt w b o x) (hx : x.name.toList.isEmpty = false) :
    Calls Tryz.prog 70 #[.pointer (some ⟨b, o, none⟩)] w fun e w' => e = .returned (.iface 152 (.agg #[.pointer (some ⟨b, o, none⟩)])) ∧ w' = w := by
  have d3 := h.c3
  clear h
  go_enter Tryz.func70, Tryz.ntmps70
  go_wp2
  go_ret
  exact ⟨rfl, rfl⟩
end Go.Proofs.YticpebpicdboaaaGreatDoor

/- toAttr, toAttrS, toItem, toItemS: what came in is copied. -/
namespace Go.Proofs.YticpebpicdboaaaGreatDoor
open Go.ChangeShapes Go.WideShapes Go.ChangeAt Go.RowKit
set_option linter.unusedVariables false

set_option maxHeartbeats 400000 in
theorem toAttr_any (s t : ByteArray) (w : World) :
    Calls Tryz.prog 278 #[.agg #[.string s, .string t]] w fun e w' => e = .returned (.agg #[.string s, .string t]) ∧ Below w.heap.size w w' := by
  go_enter Tryz.func278, Tryz.ntmps278
  go_wp2
  exact bodyPost_ret (v := .agg #[.string s, .string t]) (by simp [results, Tryz.results278, go_sem]) rfl ⟨rfl, below3 _ _ _ _⟩

set_option maxRecDepth 100000 in
set_option maxHeartbeats 1600000 in
theorem toAttrS_any (a : Option Addr) (n c : Nat) (l : List At) (w : World) (hn : l.length ≤ 1048576) (h : AtsAt w a n c l) :
    Calls Tryz.prog 220 #[.slice a n c] w (AtsRes w l) := by
  obtain ⟨i0, hi, hz0, hz1, hz2⟩ := info_parts attrInfo
  have HR := Lib.hid h.row
  have HS := Lib.hid h.size
  have HL := Lib.hid h.len
  have hn' : n ≤ 1048576 := by have := h.len; omega
  clear h hn
  go_enter Tryz.func220, Tryz.ntmps220
  go_wp2_with (at_make; refine wpList_make_full _ rfl _ _ 72 rfl w.heap.size 75 i0 _ 2 Tryz.underlying72 hi hz0 hz1 .i64 .i64 (n : Int) (n : Int) n rfl rfl rfl rfl ?c1 ?c2 ?c3 ?_)
  case c1 => rw [hz2]; omega
  case c2 => unfold maxLen; omega
  case c3 => exact Nat.le_refl _
  intro w1 ho1 hg1
  have HRoom := Lib.hid (room_made ho1)
  have HB1 := Lib.hid (below_made hg1)
  clear ho1 hg1
  go_wp2
  go_loopw [4] (fun i wr => ∃ j : Nat, j ≤ n ∧ i = .int .i64 j ∧ Room wr w.heap.size (n * 2) ∧ (∀ i, i < j → wr.cell? ⟨w.heap.size, i * 2, none⟩ = some (.string (l.getD i dAt).name) ∧ wr.cell? ⟨w.heap.size, i * 2 + 1, none⟩ = some (.string (l.getD i dAt).value)) ∧ Below w.heap.size w wr) (fun i _ => n - (intOf i).toNat)
  case atStart => exact ⟨0, Nat.zero_le _, rfl, HRoom.out, fun i hi => by omega, HB1.out⟩
  case round =>
    obtain ⟨j, hj, rfl, hroom, hdone, hb⟩ := hrel
    by_cases hlt : j < n
    · rcases HR.out with h0 | ⟨b, o, rfl, h3, h4⟩
      · omega
      · have d0 : wr.cell? ⟨b, o + j * 2, none⟩ = some (.string (l.getD j dAt).name) := (hb.cell (by exact h3)).trans (h4 j hlt).1
        have d1 : wr.cell? ⟨b, o + j * 2 + 1, none⟩ = some (.string (l.getD j dAt).value) := (hb.cell (by exact h3)).trans (h4 j hlt).2
        have HX := Lib.hid (show ∃ x, x = l.getD j dAt from ⟨_, rfl⟩)
        obtain ⟨s, hs⟩ : ∃ s, (l.getD j dAt).name = s := ⟨_, rfl⟩
        obtain ⟨t, ht⟩ : ∃ t, (l.getD j dAt).value = t := ⟨_, rfl⟩
        rw [hs] at d0
        rw [ht] at d1
        have HS1 := Lib.hid hs
        have HT1 := Lib.hid ht
        have HROOM := Lib.hid hroom
        have HDONE := Lib.hid hdone
        have HB := Lib.hid hb
        clear hs ht h4 hroom hdone hb
        go_wp2_with fail
        refine (toAttr_any s t _).mono ?_
        rintro e w2 ⟨rfl, hb2⟩
        have hr2 := HROOM.out.below hb2
        obtain ⟨⟨v0, q0⟩, f0⟩ := hr2.2 (j * 2) (by omega)
        obtain ⟨⟨v1, q1⟩, f1⟩ := hr2.2 (j * 2 + 1) (by omega)
        have HR2 := Lib.hid hr2
        have HB2 := Lib.hid hb2
        clear hr2 hb2 d0 d1
        go_wp2
        go_roundw
        case rel =>
          exact ⟨j + 1, by omega, by go_num, (HR2.out.set _ _).set _ _, ats_step HR2.out hlt HS1.out HT1.out (fun i hi => ⟨(HB2.out.cell (p := ⟨w.heap.size, i * 2, none⟩) HROOM.out.1).trans (HDONE.out i hi).1, (HB2.out.cell (p := ⟨w.heap.size, i * 2 + 1, none⟩) HROOM.out.1).trans (HDONE.out i hi).2⟩),
            ((HB.out.trans (HB2.out.mono HB.out.size)).setCell (p := ⟨w.heap.size, j * 2, none⟩) (Nat.le_refl _) _).setCell (p := ⟨w.heap.size, j * 2 + 1, none⟩) (Nat.le_refl _) _⟩
        case measure => simp [intOf]; omega
    · obtain rfl : j = n := by omega
      have HROOM := Lib.hid hroom
      have HDONE := Lib.hid hdone
      have HB := Lib.hid hb
      clear hroom hdone hb
      go_wp2
      go_ret
      exact ⟨_, _, _, rfl, ⟨HL.out, by omega, HS.out, .inr ⟨w.heap.size, 0, rfl, HROOM.out.1, fun i hi => by rw [Nat.zero_add]; exact HDONE.out i hi⟩⟩, fun x hx => by cases hx; exact Nat.le_refl _, HB.out⟩

set_option maxHeartbeats 800000 in
theorem toItem_any (x : It) (a : Option Addr) (n c : Nat) (w : World) (hn : x.attrs.length ≤ 1048576) (h : AtsAt w a n c x.attrs) :
    Calls Tryz.prog 129 #[.agg #[.int .i64 x.depth, .string x.text, .string x.space, .string x.name, .slice a n c]] w (ItRes w x) := by
  obtain ⟨d, s, t, u, l⟩ := x
  dsimp only at hn h ⊢
  have K := Lib.hid (fun W (hb : Below w.heap.size w W) => toAttrS_any a n c l W hn (h.below hb))
  clear h
  go_enter Tryz.func129, Tryz.ntmps129
  go_wp2_with fail
  refine (K.out _ (below3 _ _ _ _)).mono ?_
  rintro e w1 ⟨a1, n1, c1, rfl, hat, hsep, hb⟩
  obtain ⟨hc, hf⟩ := bcell hb
  have hz : w.heap.size + 2 < w1.heap.size := by have := hb.size; simp at this; omega
  have HAT := Lib.hid hat
  have HSEP := Lib.hid hsep
  have HB := Lib.hid hb
  clear hat hsep hb
  go_wp2
  refine bodyPost_ret (v := .agg #[.int .i64 d, .string s, .string t, .string u, .slice a1 n1 c1]) (by simp [results, Tryz.results129, go_sem, hc]) rfl ⟨_, _, _, rfl, ?_, ?_, ?_⟩
  · have hs : ∀ y, a1 = some y → w.heap.size + 2 < y.block := fun y hy => by have := HSEP.out y hy; simp at this; omega
    have hs1 : ∀ y, a1 = some y → w.heap.size + 1 < y.block := fun y hy => by have := hs y hy; omega
    exact (((((HAT.out.set hs).set hs1).set hs1).set hs1).set hs1).set hs1
  · intro y hy
    have := HSEP.out y hy
    simp at this
    omega
  · have hb := below_then (below3 _ _ _ _) HB.out
    exact (((((hb.setCell (by simp; omega) _).setCell (by simp) _).setCell (by simp) _).setCell (by simp) _).setCell (by simp) _).setCell (by simp) _

set_option maxRecDepth 100000 in
set_option maxHeartbeats 1600000 in
theorem toItemS_any (a : Option Addr) (n c : Nat) (l : List It) (w : World) (hn : SmallIts l) (h : ItsAt w a n c l) :
    Calls Tryz.prog 59 #[.slice a n c] w (ItsRes w l) := by
  obtain ⟨i0, hi, hz0, hz1, hz2⟩ := info_parts itemInfo
  have HR := Lib.hid h.row
  have HL := Lib.hid h.len
  have hn' : n ≤ 1048576 := by have := h.len; have := hn.1; omega
  have HN := Lib.hid (fun i hi => (hn.2 i hi).2.1)
  clear h hn
  go_enter Tryz.func59, Tryz.ntmps59
  go_wp2_with (at_make; refine wpList_make_full _ rfl _ _ 24 rfl w.heap.size 77 i0 _ 5 Tryz.underlying24 hi hz0 hz1 .i64 .i64 (n : Int) (n : Int) n rfl rfl rfl rfl ?c1 ?c2 ?c3 ?_)
  case c1 => rw [hz2]; omega
  case c2 => unfold maxLen; omega
  case c3 => exact Nat.le_refl _
  intro w1 ho1 hg1
  have HRoom := Lib.hid (room_made ho1)
  have HB1 := Lib.hid (below_made hg1)
  clear ho1 hg1
  go_wp2
  go_loopw [4] (fun i wr => ∃ j : Nat, j ≤ n ∧ i = .int .i64 j ∧ Room wr w.heap.size (n * 5) ∧ (∀ i, i < j → ItNew wr w.heap.size (i * 5) (l.getD i dIt)) ∧ Below w.heap.size w wr) (fun i _ => n - (intOf i).toNat)
  case atStart => exact ⟨0, Nat.zero_le _, rfl, HRoom.out, fun i hi => by omega, HB1.out⟩
  case round =>
    obtain ⟨j, hj, rfl, hroom, hdone, hb⟩ := hrel
    by_cases hlt : j < n
    · rcases HR.out with h0 | ⟨b, o, rfl, h4⟩
      · omega
      · have hi4 := (h4 j hlt).below hb
        have d0 := hi4.c0
        have d1 := hi4.c1
        have d2 := hi4.c2
        have d3 := hi4.c3
        obtain ⟨a4, n4, c4, d4, hat4⟩ := hi4.c4
        have K := Lib.hid (fun W => toItem_any (l.getD j dIt) a4 n4 c4 W (HN.out j (by have := HL.out; omega)))
        have HWF := Lib.hid hi4.wf
        have HSZ := Lib.hid hi4.size
        have HAT4 := Lib.hid hat4
        obtain ⟨x, hx⟩ : ∃ x, l.getD j dIt = x := ⟨_, rfl⟩
        rw [hx] at d0 d1 d2 d3 K HWF HSZ HAT4
        have HX := Lib.hid hx
        have HROOM := Lib.hid hroom
        have HDONE := Lib.hid hdone
        have HB := Lib.hid hb
        obtain ⟨xd, xt, xs, xn, xa⟩ := x
        dsimp only at d0 d1 d2 d3 K HWF HSZ HAT4
        clear hx hi4 hat4 h4 hroom hdone hb
        go_wp2_with fail
        refine (K.out _ HAT4.out).mono ?_
        rintro e w2 ⟨a5, n5, c5, rfl, hat5, hsep5, hb2⟩
        have hr2 := HROOM.out.below hb2
        obtain ⟨⟨v0, q0⟩, f0⟩ := hr2.2 (j * 5) (by omega)
        obtain ⟨⟨v1, q1⟩, f1⟩ := hr2.2 (j * 5 + 1) (by omega)
        obtain ⟨⟨v2, q2⟩, f2⟩ := hr2.2 (j * 5 + 2) (by omega)
        obtain ⟨⟨v3, q3⟩, f3⟩ := hr2.2 (j * 5 + 3) (by omega)
        obtain ⟨⟨v4, q4⟩, f4⟩ := hr2.2 (j * 5 + 4) (by omega)
        have HR2 := Lib.hid hr2
        have HB2 := Lib.hid hb2
        have HAT5 := Lib.hid hat5
        have HSEP := Lib.hid (fun y hy => Nat.lt_of_lt_of_le HROOM.out.1 (hsep5 y hy))
        clear hr2 hb2 hat5 hsep5 d0 d1 d2 d3 d4
        go_wp2
        go_roundw
        case rel =>
          refine ⟨j + 1, by omega, by go_num, ((((HR2.out.set _ _).set _ _).set _ _).set _ _).set _ _, its_step (x := ⟨xd, xt, xs, xn, xa⟩) HR2.out hlt HX.out HWF.out HSZ.out HAT5.out HSEP.out (fun i hi => (HDONE.out i hi).below HB2.out), ?_⟩
          have hb3 := HB.out.trans (HB2.out.mono HB.out.size)
          exact ((((hb3.setCell (Nat.le_refl _) _).setCell (Nat.le_refl _) _).setCell (Nat.le_refl _) _).setCell (Nat.le_refl _) _).setCell (Nat.le_refl _) _
        case measure => simp [intOf]; omega
    · obtain rfl : j = n := by omega
      have HROOM := Lib.hid hroom
      have HDONE := Lib.hid hdone
      have HB := Lib.hid hb
      clear hroom hdone hb
      go_wp2
      go_ret
      exact ⟨_, _, _, rfl, ⟨HL.out, by omega, .inr ⟨w.heap.size, 0, rfl, fun i hi => by rw [Nat.zero_add]; exact (HDONE.out i hi).it⟩⟩, HB.out⟩
end Go.Proofs.YticpebpicdboaaaGreatDoor
