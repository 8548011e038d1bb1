/- The program's Base64Of. -/
import Derived.Test.YtcaknhoaoodbfaaGreatDoorGC43
import Derived.Test.YtcaknhoaoodbfaaGreatDoorGC47
import Derived.Test.YtcaknhoaoodbfaaGreatDoorGC4
import Derived.Test.YtcaknhoaoodbfaaGreatDoorGC33
import Derived.Lib.ConvBytes
import Derived.Test.YtcaknhoaoodbfaaGreatDoorGC23
import Derived.Test.YtcaknhoaoodbfaaGreatDoorGC0
namespace Go.Proofs.YtcaknhoaoodbfaaGreatDoor
open Go.RowKit Go.Shelf
set_option linter.unusedVariables false

attribute [local go_sem] Oper.semAt_some

theorem ib_kept {B b : Nat} {bs : List Value} {W W' : World} {row : Option Nat} (h : IsB W B b bs) (hg : W.grownBy W' row) (hr : ∀ g cs T f, W.heap[g]? = some (.cells cs T f) → some g ≠ row) : IsB W' B b bs := by
  rcases h with h | h
  all_goals
    have hlt := h.lt
    obtain ⟨hB, v, hv, hown, hne⟩ := h
    have hk : W'.ownsRowF B 5 1 v bs.length bs := hown.kept hg (by
      cases ho : v.ownBlock with
      | none => exact .inl rfl
      | some q =>
        refine .inr ?_
        rcases hown.2 with ⟨rfl, _⟩ | ⟨g, cap, cur, fz, rfl, _, hh, _⟩
        · cases ho
        · obtain rfl : g = q := by simpa [Value.ownBlock] using ho
          exact hr _ _ _ _ hh)
  · exact .inl ⟨hB, v, (hg.block b hlt (hr _ _ _ _ hv)).trans hv, hk, hne⟩
  · exact .inr ⟨hB, v, (hg.block b hlt (hr _ _ _ _ hv)).trans hv, hk, hne⟩
def preB (xs : List Int) (pre : List Nat) : List UInt8 := pre.flatMap fun k => grpL (grpAt xs k)
theorem preB_snoc (xs : List Int) (pre : List Nat) (k : Nat) : preB xs (pre ++ [k]) = preB xs pre ++ grpL (grpAt xs k) := by simp [preB]
theorem preB_length (xs : List Int) (pre : List Nat) : (preB xs pre).length = 4 * pre.length := by
  induction pre with
  | nil => rfl
  | cons k pre ih =>
    have : preB xs (k :: pre) = grpL (grpAt xs k) ++ preB xs pre := by simp [preB]
    rw [this, List.length_append, ih, List.length_cons, show (grpL (grpAt xs k)).length = 4 from rfl]
    omega
theorem cells_kept {A : World} {row : Option Nat} (hr : ∀ r, row = some r → ∃ o : Obj, A.heap[r]? = some o ∧ o.isCells = false) : ∀ g cs T f, A.heap[g]? = some (.cells cs T f) → some g ≠ row := by
  intro g cs T f hh e
  obtain ⟨o, ho, hc⟩ := hr _ e.symm
  rw [hh] at ho
  cases ho
  cases hc

/-- the two boxes that the pieces are cut from -/
def Boxes (s : Nat) (v : Value) (W : World) : Prop := W.heap[s]? = some (.cells #[v] 22 (0, 0)) ∧ W.heap[s + 1]? = some (.cells #[.int .i64 3] 3 (0, 0))
theorem boxes_kept {s : Nat} {v : Value} {W W' : World} {row : Option Nat} (h : Boxes s v W) (hg : W.grownBy W' row) (hr : ∀ g cs T f, W.heap[g]? = some (.cells cs T f) → some g ≠ row) : Boxes s v W' :=
  ⟨(hg.block s (Array.getElem?_eq_some_iff.1 h.1).1 (hr _ _ _ _ h.1)).trans h.1, (hg.block (s + 1) (Array.getElem?_eq_some_iff.1 h.2).1 (hr _ _ _ _ h.2)).trans h.2⟩
theorem boxes_b {s b : Nat} {v : Value} {W W' : World} (h : Boxes s v W) (hk : KeptB b W W') (h1 : s ≠ b) (h2 : s + 1 ≠ b) : Boxes s v W' :=
  ⟨hk _ _ h.1 (fun e => h1 (by simpa using e)) (fun c fz e => by cases e), hk _ _ h.2 (fun e => h2 (by simpa using e)) (fun c fz e => by cases e)⟩
theorem keeps_b {B b : Nat} {bs : List Value} {W W' : World} (h : IsB W B b bs) (hk : KeptB b W W') (hs : W.heap.size ≤ W'.heap.size) : KeepsOthers W W' := by
  refine ⟨hs, fun k o ho hc => hk k o ho (fun e => ?_) (fun c fz e => by subst e; cases hc)⟩
  obtain rfl : k = b := by simpa using e
  rcases h with h | h
  all_goals
    obtain ⟨_, v, hv, _⟩ := h
    rw [ho] at hv
    cases hv
    cases hc

set_option maxRecDepth 100000 in
set_option maxHeartbeats 1600000 in
theorem implBase64Of_in (a : Option Addr) (n c : Nat) (xs : List Int) (w : World) (hn : n ≤ 3000) (hnc : n ≤ c) (hcm : c ≤ maxLen) (h : InRow w a n c xs) :
    CallsIn Fence.wide 6 Tryz.prog 93 #[.slice a n c] w fun e w' => e = .returned (.agg #[.int .i64 0, .string ⟨(b64L xs).toArray⟩]) ∧ Below w.heap.size w w' := by
  obtain ⟨rb, ro, hrow⟩ : ∃ rb ro, n = 0 ∨ (a = some ⟨rb, ro, none⟩ ∧ rb < w.heap.size ∧ ∀ i, i < n → w.cell? ⟨rb, ro + i, none⟩ = some (.int .u8 (xs.getD i 0))) := by
    rcases h.row with e | ⟨rb, ro, h1, h2, h3⟩
    · exact ⟨0, 0, .inl e⟩
    · exact ⟨rb, ro, .inr ⟨h1, h2, h3⟩⟩
  have HROW := Lib.hid hrow
  have HL := Lib.hid h.len
  have HBY := Lib.hid h.byte
  clear hrow h
  refine callsIn_of_wp_marks Tryz.func93 rfl trivial ?_ rfl
  simp only [Tryz.ntmps93, List.size_toArray, List.length_cons, List.length_nil, Nat.reduceAdd, Nat.reduceSub, Array.replicate_succ, Array.replicate_zero, List.push_toArray, List.append_toArray, List.nil_append, List.cons_append]
  gi_wp2_with fail
  refine ⟨trivial, (chunk_in _ _ _ _ 3 (by decide) _).mono ?_⟩
  rintro e w2 ⟨rfl, rfl⟩
  gi_wp2_with fail
  have hN : pieces 3 n = b64N xs := by unfold pieces b64N; rw [HL.out]
  have hN2 : pieces 3 n ≤ 1001 := by unfold pieces; omega
  have HN := Lib.hid hN
  clear hN
  obtain ⟨wR, hwR⟩ : ∃ wR, w.alloc (.cells #[.int .i64 0, .string ⟨#[]⟩] 42) = wR := ⟨_, rfl⟩
  rw [hwR]
  have hRz : wR.heap.size = w.heap.size + 1 := by rw [← hwR]; simp
  have HRB : Hid (Below w.heap.size w wR) := Lib.hid (by rw [← hwR]; exact below1 _ _)
  have HRC : Hid (CodeB wR w.heap.size 42 0 (.string ⟨#[]⟩)) := Lib.hid (by rw [← hwR]; exact heap_alloc_new w _)
  clear hwR
  generalize hW2 : (((wR.alloc (Obj.cells #[Value.pointer none, Value.slice none 0 0] 176)).alloc (Obj.cells #[Value.slice a n c] 22)).alloc (Obj.cells #[Value.int IntKind.i64 3] 3)) = W2
  have hz2 : W2.heap.size = w.heap.size + 4 := by rw [← hW2]; simp [hRz]
  have sX : Boxes (w.heap.size + 2) (.slice a n c) W2 := by
    constructor
    · rw [← hW2, Below.heap_alloc _ _ _ (by simp; omega)]
      have := heap_alloc_new (wR.alloc (Obj.cells #[Value.pointer none, Value.slice none 0 0] 176)) (Obj.cells #[Value.slice a n c] 22)
      simpa [hRz] using this
    · have := heap_alloc_new ((wR.alloc (Obj.cells #[Value.pointer none, Value.slice none 0 0] 176)).alloc (Obj.cells #[Value.slice a n c] 22)) (Obj.cells #[Value.int IntKind.i64 3] 3)
      rw [← hW2]
      simpa [hRz] using this
  have hb0 : W2.cell? ⟨w.heap.size + 2, 0, none⟩ = some (.slice a n c) := by rw [Lib.cell_of_heap sX.1]; rfl
  have hb1 : W2.cell? ⟨w.heap.size + 2 + 1, 0, none⟩ = some (.int .i64 ((3 : Nat) : Int)) := by rw [Lib.cell_of_heap sX.2]; rfl
  have sB : Below (w.heap.size + 1) wR W2 := by
    rw [← hW2, ← hRz]
    exact (((Below.refl _ _).alloc (Nat.le_refl _) _).alloc (by simp) _).alloc (by simp; omega) _
  have sI : IsB W2 (w.heap.size + 1) (w.heap.size + 1) [] := by
    rw [← hW2]
    refine ib_below (W := wR.alloc (Obj.cells #[Value.pointer none, Value.slice none 0 0] 176)) (.inl ⟨Nat.le_refl _, .slice none 0 0, ?_, World.ownsRowF_nil _ _ _ _, by simp [Value.ownBlock]⟩) (below2 _ _ _)
    have := heap_alloc_new wR (Obj.cells #[Value.pointer none, Value.slice none 0 0] 176)
    rwa [hRz] at this
  clear hW2
  refine wpIn_rangeFunc_ownF rfl (by omega) (gf := 210) (lb := #[.pointer (some ⟨w.heap.size + 2, 0, none⟩), .pointer (some ⟨w.heap.size + 2 + 1, 0, none⟩)]) rfl trivial (enters_of Tryz.func210 (by kernel_rfl) rfl)
    (chunk_stops _ (by omega) (w.heap.size + 2) w.heap.size a rb ro n c 3 (by decide) (by decide) (by omega) hnc hcm (HROW.out.imp id (fun h => h.1)) W2 (by omega) (by omega) hb0 hb1) (fun h k => KpC.trans h k) (kpC_b (by omega) (by omega)) (Below.refl _ _) (fun _ => rfl)
    (fun pre W => (IsB W (w.heap.size + 1) (w.heap.size + 1) (Lib.byteCells (preB xs (pre.map (·.1)))) ∧ Boxes (w.heap.size + 2) (.slice a n c) W) ∧ Below (w.heap.size + 1) wR W)
    (fun c pre W => False ∧ Below (w.heap.size + 1) wR W)
    (OwnFrom.and (Own.from (fun s A B row hs hg hr => ⟨ib_kept hs.1 hg (cells_kept hr), boxes_kept hs.2 hg (cells_kept hr)⟩) _) (ownFrom_below (by omega) (by omega)))
    (fun c => OwnFrom.and (Own.from (fun s A B row hs hg hr => hs.elim) _) (ownFrom_below (by omega) (by omega)))
    ⟨⟨sI, sX⟩, sB⟩
    (fun x => { tmps := #[.slice a n c, undef, .pointer (some ⟨w.heap.size, 0, none⟩), .pointer (some ⟨w.heap.size + 1, 0, none⟩), .slice (some ⟨rb, ro + 3 * x.1, none⟩) (min 3 (n - 3 * x.1)) (min 3 (n - 3 * x.1)), .slice a n c, .int .i64 n, .bool (decide ((3000 : Int) < (n : Int))), undef, .slice a n c,
      .func (.func 210) #[] #[.pointer (some ⟨w.heap.size + 2, 0, none⟩), .pointer (some ⟨w.heap.size + 2 + 1, 0, none⟩)], .slice (some ⟨rb, ro + 3 * x.1, none⟩) (min 3 (n - 3 * x.1)) (min 3 (n - 3 * x.1)), undef, undef, undef, undef], defers := [] }) ?assign ?body ?done ?stop
  case assign =>
    intro l x W K hK
    unfold encC
    gi_wp2
    exact hK
  case body =>
    rintro l pre x W ⟨⟨hI, hX⟩, hB⟩ hlt
    obtain ⟨k, hk⟩ := x
    obtain ⟨rfl, hrb, hcl⟩ := HROW.out.resolve_left (by omega)
    obtain ⟨m, hm⟩ : ∃ m, min 3 (n - 3 * k) = m := ⟨_, rfl⟩
    have hsz := hB.size
    have hpl : (Lib.byteCells (preB xs (pre.map (·.1)))).length ≤ 900000 := by
      rw [Lib.byteCells_length, preB_length, List.length_map]
      have : pre.length < pieces 3 n := by simpa using hlt
      omega
    have K := Lib.hid (writeGroup_any (w.heap.size + 1) (w.heap.size + 1) rb (ro + 3 * k) m m (Lib.byteCells (preB xs (pre.map (·.1)))) (grpAt xs k) W hI hpl (by omega) (by omega) (by omega) (by rw [grpAt_length, HL.out, hm])
      (fun i => by
        rcases Nat.lt_or_ge i 3 with h3 | h3
        · rw [grpAt_getD xs k i h3]; exact HBY.out _
        · rw [List.getD_eq_getElem?_getD, List.getElem?_eq_none (by rw [grpAt_length]; omega)]; decide) (by omega)
      (fun i hi => by
        rw [grpAt_getD xs k i (by omega), Nat.add_assoc]
        exact (hB.cell (p := ⟨rb, ro + (3 * k + i), none⟩) (by show rb < w.heap.size + 1; omega)).trans ((HRB.out.cell (p := ⟨rb, ro + (3 * k + i), none⟩) hrb).trans (hcl _ (by omega)))))
    have HSN := Lib.hid (preB_snoc xs (pre.map (·.1)) k)
    unfold GroupRes at K
    dsimp only
    rw [hm]
    have HI := Lib.hid hI
    have HX := Lib.hid hX
    have HB := Lib.hid hB
    clear sI sX sB hb0 hb1 hI hX hB hcl hpl hlt
    gi_wp2_with fail
    refine ⟨trivial, (CallsIn.inRound l (callsIn_wide.2 K.out)).mono ?_⟩
    rintro e w3 ⟨rfl, hA3, hB3, hK3⟩
    have HA3 := Lib.hid hA3
    have HB3 := Lib.hid hB3
    have HK3 := Lib.hid hK3
    have hs3 := hB3.size
    clear hA3 hB3 hK3 K
    gi_wp2
    have hX3 := boxes_b HX.out HK3.out (by omega) (by omega)
    refine ⟨keeps_b HI.out HK3.out hs3, ⟨HB3.out.mono (by omega), hX3.1.trans HX.out.1.symm, hX3.2.trans HX.out.2.symm⟩, ⟨?_, hX3⟩, HB.out.trans HB3.out⟩
    rw [List.map_append, List.map_cons, List.map_nil, HSN.out, Lib.byteCells_append]
    exact .inr HA3.out
  case done =>
    rintro D ys W hD hys ⟨⟨hI, _⟩, hB⟩ hK
    have hst : preB xs (ys.map (·.1)) = b64L xs := by rw [hys, HN.out]; rfl
    rw [hst] at hI
    have HI := Lib.hid hI
    have HB := Lib.hid hB
    have HK := Lib.hid hK
    have hzW := hB.size
    have KS := Lib.hid (Tryz.Builder_String_any_k (w.heap.size + 1) (w.heap.size + 1) (b64L xs) W hI (by omega))
    clear hys hst hI hB hK sI sX sB hb0 hb1
    gi_wp2_with fail
    refine ⟨trivial, (callsIn_wide.2 KS.out).mono ?_⟩
    rintro e w3 ⟨rfl, _, hB3, hKO⟩
    have hK3 : w3.heap[D]? = some (.deferred (some [])) := hKO D _ HK.out (fun e => absurd (show D = w.heap.size + 1 by simpa using e) (by omega)) (fun c fz e => by cases e)
    have HB3 := Lib.hid hB3
    clear hB3 hKO KS
    have hR3 : CodeB w3 w.heap.size 42 0 (.string ⟨#[]⟩) := (HB3.out.block w.heap.size (by omega)).trans ((HB.out.block w.heap.size (by omega)).trans HRC.out)
    have g0 := hR3.cell0
    have g1 := hR3.cell1
    have gf := hR3.free
    have HR3 := Lib.hid hR3
    have HK3 := Lib.hid hK3
    clear hR3 hK3
    gi_wp2
    have hR4 := HR3.out.set 0 (.string ⟨(b64L xs).toArray⟩)
    have hK' := ((KeepsOthers.setCell w3 ⟨w.heap.size, 0, none⟩ (.int .i64 0)).trans (KeepsOthers.setCell _ ⟨w.heap.size, 1, none⟩ (.string ⟨(b64L xs).toArray⟩))).same D _ HK3.out rfl
    refine ⟨by simp, .inl ⟨_, _, rfl, run_takeDeferred hK', ?_⟩⟩
    have hd0 := cell_kept hR4.cell0 (grownBy_putObj' _ D (.deferred none)) (fun r e => by cases e; exact ⟨_, hK', rfl⟩)
    have hd1 := cell_kept hR4.cell1 (grownBy_putObj' _ D (.deferred none)) (fun r e => by cases e; exact ⟨_, hK', rfl⟩)
    refine ⟨.agg #[.int .i64 0, .string ⟨(b64L xs).toArray⟩], ?_, rfl, (((HRB.out.trans ((HB.out.trans HB3.out).mono (by omega))).setCell (p := ⟨w.heap.size, 0, none⟩) (Nat.le_refl _) _).setCell (p := ⟨w.heap.size, 1, none⟩) (Nat.le_refl _) _).trans (belowK_b (w := w) (Nat.le_refl _) _ D _ _ (by omega) hK' rfl rfl)⟩
    simp [results, Tryz.f93, go_sem, hd0, hd1]
  case stop =>
    rintro D c pre W hD hpre ⟨h, _⟩ hK
    exact h.elim

/-- the program's Base64Of -/
theorem implBase64Of_any (a : Option Addr) (n c : Nat) (xs : List Int) (w : World) (hm : n ≤ 1048576) (hnc : n ≤ c) (hcm : c ≤ maxLen) (h : InRow w a n c xs) :
    Calls Tryz.prog 93 #[.slice a n c] w fun e w' => e = .returned (.agg #[.int .i64 (b64Code xs), .string (b64Text xs)]) ∧ Below w.heap.size w w' := by
  have hl := h.len
  unfold b64Code b64Text
  rw [hl]
  by_cases h3 : 3000 < n
  · rw [if_pos h3, if_pos h3]
    clear hl h
    go_enter Tryz.func93, Tryz.ntmps93
    go_wp2
    exact bodyPost_ret (v := .agg #[.int .i64 2, .string _]) (by simp [results, Tryz.results93, go_sem]; rfl) rfl ⟨rfl, below1 w _⟩
  · rw [if_neg h3, if_neg h3]
    exact callsIn_wide.1 (implBase64Of_in a n c xs w (by omega) hnc hcm h)
end Go.Proofs.YtcaknhoaoodbfaaGreatDoor

/- The program's CapsOf. -/
namespace Go.Proofs.YtcaknhoaoodbfaaGreatDoor
open Go.ChangeShapes Go.WideShapes Go.ChangeAt Go.RowKit
set_option linter.unusedVariables false

theorem field_bytes (c : Int) (a : Option Addr) (n k : Nat) (W : World) : (Instr.field 105 (.agg #[.int .i64 c, .slice a n k]) 1).run Tryz.prog W = .ok (.slice a n k) W := by kernel_rfl
set_option maxRecDepth 100000 in
set_option maxHeartbeats 1600000 in
theorem implCapsOf_any (a1 a2 : Option Addr) (n1 c1 n2 c2 : Nat) (d : Dis) (w : World) (hs : SmallDis d) (hcap : CapOk a1 n1 c1 ∧ CapOk a2 n2 c2) (hT : Tabs w) (h : DisAt w a1 n1 c1 a2 n2 c2 d) :
    Calls Tryz.prog 41 #[.agg #[.slice a1 n1 c1, .slice a2 n2 c2]] w (TxtRes w (capsCode d) (capsName d)) := by
  have B0 := below2 w (.cells #[.slice a1 n1 c1, .slice a2 n2 c2] 50) (.cells #[.int .i64 0, .string { data := #[] }] 42)
  have K1 := Lib.hid (fun W (hb : Below w.heap.size w W) => implCapsString_any a1 a2 n1 c1 n2 c2 d W hs hcap (tabs_kept hT hb) (h.below hb))
  unfold TxtRes at K1
  unfold TxtRes
  have HE : Hid (disCode d ≠ 0 → capsText d = ByteArray.empty ∧ capsName d = ByteArray.empty) := Lib.hid (fun h0 => by unfold capsText capsName; rw [if_neg h0, if_neg h0]; exact ⟨rfl, rfl⟩)
  have HY : Hid (disCode d = 0 → capsText d = ⟨(capsL d).toArray⟩ ∧ capsName d = ⟨(b64L (shaL (capsNums d))).toArray⟩ ∧ (capsL d).length ≤ 3000) := Lib.hid (fun h0 => by unfold capsText capsName; rw [if_pos h0, if_pos h0]; exact ⟨rfl, rfl, caps_len h0⟩)
  have HNB := Lib.hid (capsNums_byte d)
  have HNL := Lib.hid (capsNums_len d)
  have hcc : capsCode d = disCode d := rfl
  rw [hcc] at K1 ⊢
  have HNA : Hid (capsNums d = (capsL d).map fun u => (u.toNat : Int)) := Lib.hid rfl
  generalize capsText d = tx at K1 HE HY
  generalize capsName d = nm at HE HY ⊢
  generalize capsNums d = xs at HY HNB HNL HNA
  generalize capsL d = cl at HY HNL HNA
  generalize disCode d = cd at K1 HE HY ⊢
  clear h hs hcc hcap hT
  by_cases h0 : cd = 0
  · obtain ⟨rfl, rfl, hlen⟩ := HY.out h0
    subst h0
    clear HY HE
    go_enter Tryz.func41, Tryz.ntmps41
    go_wp2_with fail
    refine (K1.out _ B0).mono ?_
    rintro en w1 ⟨rfl, hb1⟩
    have HB1 := Lib.hid hb1
    have hz1 : w.heap.size + 1 < w1.heap.size := by have := hb1.size; simp at this; omega
    obtain ⟨hc1, hf1⟩ := bcell hb1
    clear hb1
    obtain ⟨W, hW⟩ : ∃ W, w1.alloc (.cells #[.int .i64 0, .string ⟨cl.toArray⟩] 42) = W := ⟨_, rfl⟩
    have hWz : W.heap.size = w1.heap.size + 1 := by rw [← hW]; simp
    have HBW : Hid (Below w1.heap.size w1 W) := Lib.hid (by rw [← hW]; exact below1 _ _)
    have hsz : (⟨cl.toArray⟩ : ByteArray).size = cl.length := by show cl.toArray.size = _; rw [List.size_toArray]
    have e0 : W.cell? ⟨w1.heap.size, 0, none⟩ = some (.int .i64 0) := by rw [← hW]; simp
    have e1 : W.cell? ⟨w1.heap.size, 1, none⟩ = some (.string ⟨cl.toArray⟩) := by rw [← hW]; simp
    have hcv := Lib.run_convert_string_bytes (P := Tryz.prog) W 9 22 5 ⟨cl.toArray⟩ (u := .string) Tryz.underlying9 Tryz.underlying22 Tryz.underlying5
    have HCB := Lib.hid (fun j (hj : j < (⟨cl.toArray⟩ : ByteArray).size) => Lib.bytesWorld_cell W 5 ⟨cl.toArray⟩ j hj)
    have HBL := Lib.hid (Lib.bytesWorld_below W 5 ⟨cl.toArray⟩)
    have HWL : Hid (W.heap.size < (Lib.bytesWorld W 5 ⟨cl.toArray⟩).heap.size) := Lib.hid (by rw [Lib.bytesWorld_size]; omega)
    generalize Lib.bytesWorld W 5 ⟨cl.toArray⟩ = W2 at hcv HCB HBL HWL
    generalize grownCap W (⟨cl.toArray⟩ : ByteArray).size 0 5 = cp at hcv
    rw [hsz] at hcv
    rw [hWz] at hcv HCB HWL
    have HI2 : Hid (InRow W2 (some ⟨w1.heap.size + 1, 0, none⟩) cl.length cp xs) := Lib.hid ⟨by unfold maxLen; omega, HNL.out, HNB.out, .inr ⟨w1.heap.size + 1, 0, rfl, HWL.out, fun i hi => by
      rw [Nat.zero_add, HCB.out i (by rw [hsz]; exact hi), HNA.out]
      show some (Value.int .u8 ((cl.getD i 0).toNat : Int)) = _
      rw [List.getD_eq_getElem?_getD, List.getD_eq_getElem?_getD, List.getElem?_map, List.getElem?_eq_getElem hi]
      rfl⟩⟩
    clear HCB HNA HNB
    go_wp2_with fail
    have KS := Lib.hid (implSha1Of_any _ _ _ xs W2 (by omega) (fun e => by cases e) HI2.out)
    have hsc : shaCode xs = 0 := by unfold shaCode; rw [if_neg (by rw [HNL.out]; omega)]
    have hsb : shaBytes xs = shaL xs := by unfold shaBytes; rw [if_neg (by rw [HNL.out]; omega)]
    rw [hsc, hsb] at KS
    clear hsc hsb
    unfold OwnsRes2 at KS
    have hfb := field_bytes
    go_wp2_with fail
    refine KS.out.mono ?_
    rintro en w3 ⟨a3, n3, c3, rfl, ho3, hb3⟩
    have hn3 : n3 = 20 := by have := owns_length ho3; rw [shaL_length] at this; exact this
    subst hn3
    have KB := Lib.hid (implBase64Of_any a3 20 c3 (shaL xs) w3 (by decide) (owned_cap ho3).2.1 (owned_cap ho3).2.2 (owned_in ho3 (shaL_mem xs) (by decide)))
    have hbc : b64Code (shaL xs) = 0 := by unfold b64Code; rw [if_neg (by rw [shaL_length]; decide)]
    have hbt : b64Text (shaL xs) = ⟨(b64L (shaL xs)).toArray⟩ := by unfold b64Text; rw [if_neg (by rw [shaL_length]; decide)]
    rw [hbc, hbt] at KB
    clear hbc hbt
    have HB3 := Lib.hid (below_then HBL.out hb3)
    clear ho3 hb3 KS hcv HI2 e0 e1
    go_wp2_with fail
    refine KB.out.mono ?_
    rintro en w4 ⟨rfl, hb4⟩
    have hb5 := below_then HBW.out (below_then HB3.out hb4)
    obtain ⟨hcc, hff⟩ := bcell (below_then HB1.out hb5)
    have hz4 : w.heap.size + 1 < w4.heap.size := by have := hb5.size; omega
    have HBF := Lib.hid (below_then B0 (below_then HB1.out hb5))
    clear hb4 hb5 KB hc1 hf1
    go_wp2
    exact bodyPost_ret (v := .agg #[.int .i64 0, .string ⟨(b64L (shaL xs)).toArray⟩]) (by simp [results, Tryz.results41, go_sem, hcc]) rfl ⟨rfl, (HBF.out.setCell (by simp) _).setCell (by simp) _⟩
  · obtain ⟨rfl, rfl⟩ := HE.out h0
    have h0b : (cd != 0) = true := by rw [bne_iff_ne]; exact h0
    clear HE HY
    go_enter Tryz.func41, Tryz.ntmps41
    go_wp2_with fail
    refine (K1.out _ B0).mono ?_
    rintro en w1 ⟨rfl, hb1⟩
    have hb2 := below_then hb1 (below1 w1 (.cells #[.int .i64 cd, .string ByteArray.empty] 42))
    obtain ⟨hc1, hf1⟩ := bcell hb2
    have hz : w.heap.size + 1 < w1.heap.size := by have := hb1.size; simp at this; omega
    have HB2 := Lib.hid (below_then B0 hb2)
    obtain ⟨W, hW⟩ : ∃ W, w1.alloc (.cells #[.int .i64 cd, .string ByteArray.empty] 42) = W := ⟨_, rfl⟩
    have e0 : W.cell? ⟨w1.heap.size, 0, none⟩ = some (.int .i64 cd) := by rw [← hW]; simp
    rw [hW] at hc1 hf1 HB2
    have hne1 : w1.heap.size ≠ w.heap.size + 1 := by omega
    have hne2 : w.heap.size + 1 ≠ w1.heap.size := by omega
    clear hb1 hb2
    go_wp2
    exact bodyPost_ret (v := .agg #[.int .i64 cd, .string ByteArray.empty]) (by simp [results, Tryz.results41, go_sem, hc1]; rfl) rfl ⟨rfl, (HB2.out.setCell (by simp) _).setCell (by simp) _⟩
end Go.Proofs.YtcaknhoaoodbfaaGreatDoor

/- spec.IdentityText. -/
namespace Go.Proofs.YtcaknhoaoodbfaaGreatDoor
open Go.ChangeShapes Go.WideShapes Go.ChangeAt Go.RowKit
set_option linter.unusedVariables false

set_option maxHeartbeats 1600000 in
theorem specIdentityText_any (x : Ident) (w : World) (hs : SmallId x) :
    Calls Tryz.prog 46 #[.agg #[.string x.cat, .string x.kind, .string x.lang, .string x.name]] w (TxtRes w (idCode x) (idText x)) := by
  have hx : IdAt (w.alloc (.cells #[.string x.cat, .string x.kind, .string x.lang, .string x.name] 54)) w.heap.size 0 x := ⟨by simp, by simp, by simp, by simp, by simp⟩
  have K1 := Lib.hid (fun W (hb : Below (w.heap.size + 1) (w.alloc (.cells #[.string x.cat, .string x.kind, .string x.lang, .string x.name] 54)) W) => l9Identity_any w.heap.size 0 x W hs (hx.below (hb.mono (by simp))))
  have K2 := Lib.hid (fun W (hb : Below (w.heap.size + 1) (w.alloc (.cells #[.string x.cat, .string x.kind, .string x.lang, .string x.name] 54)) W) => l9Text_any w.heap.size 0 x W hs (hx.below (hb.mono (by simp))))
  have H0 : Hid (identB x = false → idCode x = 5 ∧ idText x = ByteArray.empty) := Lib.hid (fun h => by unfold idCode idText; simp [h])
  have H1 : Hid (identB x = true → idCode x = 0 ∧ idText x = identT x) := Lib.hid (fun h => by unfold idCode idText; simp [h])
  unfold TxtRes
  generalize idCode x = cd at H0 H1 ⊢
  generalize idText x = tx at H0 H1 ⊢
  generalize identB x = bb at K1 H0 H1
  generalize identT x = it at K2 H1
  clear hx
  obtain ⟨s, t, u, v⟩ := x
  dsimp only at K1 K2 ⊢
  have B0 := below2 w (.cells #[.string s, .string t, .string u, .string v] 54) (.cells #[.int .i64 0, .string { data := #[] }] 42)
  have B00 : Below (w.heap.size + 1) (w.alloc (.cells #[.string s, .string t, .string u, .string v] 54)) ((w.alloc (.cells #[.string s, .string t, .string u, .string v] 54)).alloc (.cells #[.int .i64 0, .string { data := #[] }] 42)) := (Below.refl _ _).alloc (by simp) _
  cases bb
  · obtain ⟨rfl, rfl⟩ := H0.out rfl
    clear H0 H1
    go_enter Tryz.func46, Tryz.ntmps46
    go_wp2_with fail
    refine (K1.out _ B00).mono ?_
    rintro en w1 ⟨rfl, hb1⟩
    obtain ⟨hc1, hf1⟩ := bcell hb1
    have hz : w.heap.size + 1 < w1.heap.size := by have := hb1.size; simp at this; omega
    have B1 := Lib.hid (below_then B0 hb1)
    clear hb1
    go_wp2
    exact bodyPost_ret (v := .agg #[.int .i64 5, .string ByteArray.empty]) (by simp [results, Tryz.results46, go_sem, hc1]; rfl) rfl ⟨rfl, (B1.out.setCell (by simp) _).setCell (by simp) _⟩
  · obtain ⟨rfl, rfl⟩ := H1.out rfl
    clear H0 H1
    go_enter Tryz.func46, Tryz.ntmps46
    go_wp2_with fail
    refine (K1.out _ B00).mono ?_
    rintro en w1 ⟨rfl, hb1⟩
    have B11 := Lib.hid (B00.trans (hb1.mono (by simp)))
    have HB1 := Lib.hid hb1
    clear hb1
    go_wp2_with fail
    refine (K2.out _ B11.out).mono ?_
    rintro en w2 ⟨rfl, nd, rfl⟩
    have hbx := below_drewN HB1.out nd
    generalize w1.drewN nd = w2 at hbx ⊢
    obtain ⟨hc1, hf1⟩ := bcell hbx
    have hz : w.heap.size + 1 < w2.heap.size := by have := hbx.size; simp at this; omega
    have B1 := Lib.hid (below_then B0 hbx)
    clear hbx
    go_wp2
    exact bodyPost_ret (v := .agg #[.int .i64 0, .string tx]) (by simp [results, Tryz.results46, go_sem, hc1]) rfl ⟨rfl, (B1.out.setCell (by simp) _).setCell (by simp) _⟩
end Go.Proofs.YtcaknhoaoodbfaaGreatDoor

/- lwBig. -/
namespace Go.Proofs.YtcaknhoaoodbfaaGreatDoor
open Go.ChangeShapes Go.WideShapes Go.ChangeAt Go.RowKit
set_option linter.unusedVariables false

theorem lwBig_any (a : Option Addr) (n c : Nat) (hn : n ≤ 9223372036854775807) (w : World) :
    Calls Tryz.prog 6 #[.slice a n c] w fun e w' => e = .returned (.bool (decide (1048576 < n))) ∧ w' = w := by
  by_cases h : 1048576 < n
  · go_enter Tryz.func6, Tryz.ntmps6
    go_wp2
    go_ret
    exact ⟨ret_bool (by simp; omega), rfl⟩
  · go_enter Tryz.func6, Tryz.ntmps6
    go_wp2
    go_ret
    exact ⟨ret_bool (by simp; omega), rfl⟩

end Go.Proofs.YtcaknhoaoodbfaaGreatDoor
