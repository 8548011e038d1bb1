/- The program's Base64Of. -/
import Derived.Test.YtlhflkpbccbofaaSha1P
import Derived.Test.YtlhflkpbccbofaaGroupP
import Derived.Test.YtlhflkpbccbofaaShelf
namespace Go.Proofs.Ytlhflkpbccbofaa
open Go.RowKit Go.Shelf
set_option linter.unusedVariables false

attribute [local go_sem] Oper.semAt_some

theorem ib_kept {B b : Nat} {bs : List Value} {W W' : World} {row : Option Nat} (h : IsB W B b bs) (hg : W.grownBy W' row) (hr : ∀ g cs T f, W.heap[g]? = some (.cells cs T f) → some g ≠ row) : IsB W' B b bs := by
  rcases h with h | h
  all_goals
    have hlt := h.lt
    obtain ⟨hB, v, hv, hown, hne⟩ := h
    have hk : W'.ownsRowF B 5 1 v bs.length bs := hown.kept hg (by
      cases ho : v.ownBlock with
      | none => exact .inl rfl
      | some q =>
        refine .inr ?_
        rcases hown.2 with ⟨rfl, _⟩ | ⟨g, cap, cur, fz, rfl, _, hh, _⟩
        · cases ho
        · obtain rfl : g = q := by simpa [Value.ownBlock] using ho
          exact hr _ _ _ _ hh)
  · exact .inl ⟨hB, v, (hg.block b hlt (hr _ _ _ _ hv)).trans hv, hk, hne⟩
  · exact .inr ⟨hB, v, (hg.block b hlt (hr _ _ _ _ hv)).trans hv, hk, hne⟩
def preB (xs : List Int) (pre : List Nat) : List UInt8 := pre.flatMap fun k => grpL (grpAt xs k)
theorem preB_snoc (xs : List Int) (pre : List Nat) (k : Nat) : preB xs (pre ++ [k]) = preB xs pre ++ grpL (grpAt xs k) := by simp [preB]
theorem preB_length (xs : List Int) (pre : List Nat) : (preB xs pre).length = 4 * pre.length := by
  induction pre with
  | nil => rfl
  | cons k pre ih =>
    have : preB xs (k :: pre) = grpL (grpAt xs k) ++ preB xs pre := by simp [preB]
    rw [this, List.length_append, ih, List.length_cons, show (grpL (grpAt xs k)).length = 4 from rfl]
    omega
theorem cells_kept {A : World} {row : Option Nat} (hr : ∀ r, row = some r → ∃ o : Obj, A.heap[r]? = some o ∧ o.isCells = false) : ∀ g cs T f, A.heap[g]? = some (.cells cs T f) → some g ≠ row := by
  intro g cs T f hh e
  obtain ⟨o, ho, hc⟩ := hr _ e.symm
  rw [hh] at ho
  cases ho
  cases hc

/-- the two boxes that the pieces are cut from -/
def Boxes (s : Nat) (v : Value) (W : World) : Prop := W.heap[s]? = some (.cells #[v] 22 (0, 0)) ∧ W.heap[s + 1]? = some (.cells #[.int .i64 3] 3 (0, 0))
theorem boxes_kept {s : Nat} {v : Value} {W W' : World} {row : Option Nat} (h : Boxes s v W) (hg : W.grownBy W' row) (hr : ∀ g cs T f, W.heap[g]? = some (.cells cs T f) → some g ≠ row) : Boxes s v W' :=
  ⟨(hg.block s (Array.getElem?_eq_some_iff.1 h.1).1 (hr _ _ _ _ h.1)).trans h.1, (hg.block (s + 1) (Array.getElem?_eq_some_iff.1 h.2).1 (hr _ _ _ _ h.2)).trans h.2⟩
theorem boxes_b {s b : Nat} {v : Value} {W W' : World} (h : Boxes s v W) (hk : KeptB b W W') (h1 : s ≠ b) (h2 : s + 1 ≠ b) : Boxes s v W' :=
  ⟨hk _ _ h.1 (fun e => h1 (by simpa using e)) (fun c fz e => by cases e), hk _ _ h.2 (fun e => h2 (by simpa using e)) (fun c fz e => by cases e)⟩
theorem keeps_b {B b : Nat} {bs : List Value} {W W' : World} (h : IsB W B b bs) (hk : KeptB b W W') (hs : W.heap.size ≤ W'.heap.size) : KeepsOthers W W' := by
  refine ⟨hs, fun k o ho hc => hk k o ho (fun e => ?_) (fun c fz e => by subst e; cases hc)⟩
  obtain rfl : k = b := by simpa using e
  rcases h with h | h
  all_goals
    obtain ⟨_, v, hv, _⟩ := h
    rw [ho] at hv
    cases hv
    cases hc

set_option maxRecDepth 100000 in
set_option maxHeartbeats 1600000 in
theorem implBase64Of_in (a : Option Addr) (n c : Nat) (xs : List Int) (w : World) (hn : n ≤ 3000) (hnc : n ≤ c) (hcm : c ≤ maxLen) (h : InRow w a n c xs) :
    CallsIn Fence.wide 6 Try.prog 10 #[.slice a n c] w fun e w' => e = .returned (.agg #[.int .i64 0, .string ⟨(b64L xs).toArray⟩]) ∧ Below w.heap.size w w' := by
  obtain ⟨rb, ro, hrow⟩ : ∃ rb ro, n = 0 ∨ (a = some ⟨rb, ro, none⟩ ∧ rb < w.heap.size ∧ ∀ i, i < n → w.cell? ⟨rb, ro + i, none⟩ = some (.int .u8 (xs.getD i 0))) := by
    rcases h.row with e | ⟨rb, ro, h1, h2, h3⟩
    · exact ⟨0, 0, .inl e⟩
    · exact ⟨rb, ro, .inr ⟨h1, h2, h3⟩⟩
  have HROW := Lib.hid hrow
  have HL := Lib.hid h.len
  have HBY := Lib.hid h.byte
  clear hrow h
  refine callsIn_of_wp_marks Try.func10 rfl trivial ?_ rfl
  simp only [Try.ntmps10, List.size_toArray, List.length_cons, List.length_nil, Nat.reduceAdd, Nat.reduceSub, Array.replicate_succ, Array.replicate_zero, List.push_toArray, List.append_toArray, List.nil_append, List.cons_append]
  gi_wp2_with fail
  refine ⟨trivial, (chunk_in _ _ _ _ 3 (by decide) _).mono ?_⟩
  rintro e w2 ⟨rfl, rfl⟩
  gi_wp2_with fail
  have hN : pieces 3 n = b64N xs := by unfold pieces b64N; rw [HL.out]
  have hN2 : pieces 3 n ≤ 1001 := by unfold pieces; omega
  have HN := Lib.hid hN
  clear hN
  obtain ⟨wR, hwR⟩ : ∃ wR, w.alloc (.cells #[.int .i64 0, .string ⟨#[]⟩] 29) = wR := ⟨_, rfl⟩
  rw [hwR]
  have hRz : wR.heap.size = w.heap.size + 1 := by rw [← hwR]; simp
  have HRB : Hid (Below w.heap.size w wR) := Lib.hid (by rw [← hwR]; exact below1 _ _)
  have HRC : Hid (CodeB wR w.heap.size 29 0 (.string ⟨#[]⟩)) := Lib.hid (by rw [← hwR]; exact heap_alloc_new w _)
  clear hwR
  generalize hW2 : (((wR.alloc (Obj.cells #[Value.pointer none, Value.slice none 0 0] 53)).alloc (Obj.cells #[Value.slice a n c] 22)).alloc (Obj.cells #[Value.int IntKind.i64 3] 3)) = W2
  have hz2 : W2.heap.size = w.heap.size + 4 := by rw [← hW2]; simp [hRz]
  have sX : Boxes (w.heap.size + 2) (.slice a n c) W2 := by
    constructor
    · rw [← hW2, Below.heap_alloc _ _ _ (by simp; omega)]
      have := heap_alloc_new (wR.alloc (Obj.cells #[Value.pointer none, Value.slice none 0 0] 53)) (Obj.cells #[Value.slice a n c] 22)
      simpa [hRz] using this
    · have := heap_alloc_new ((wR.alloc (Obj.cells #[Value.pointer none, Value.slice none 0 0] 53)).alloc (Obj.cells #[Value.slice a n c] 22)) (Obj.cells #[Value.int IntKind.i64 3] 3)
      rw [← hW2]
      simpa [hRz] using this
  have hb0 : W2.cell? ⟨w.heap.size + 2, 0, none⟩ = some (.slice a n c) := by rw [Lib.cell_of_heap sX.1]; rfl
  have hb1 : W2.cell? ⟨w.heap.size + 2 + 1, 0, none⟩ = some (.int .i64 ((3 : Nat) : Int)) := by rw [Lib.cell_of_heap sX.2]; rfl
  have sB : Below (w.heap.size + 1) wR W2 := by
    rw [← hW2, ← hRz]
    exact (((Below.refl _ _).alloc (Nat.le_refl _) _).alloc (by simp) _).alloc (by simp; omega) _
  have sI : IsB W2 (w.heap.size + 1) (w.heap.size + 1) [] := by
    rw [← hW2]
    refine ib_below (W := wR.alloc (Obj.cells #[Value.pointer none, Value.slice none 0 0] 53)) (.inl ⟨Nat.le_refl _, .slice none 0 0, ?_, World.ownsRowF_nil _ _ _ _, by simp [Value.ownBlock]⟩) (below2 _ _ _)
    have := heap_alloc_new wR (Obj.cells #[Value.pointer none, Value.slice none 0 0] 53)
    rwa [hRz] at this
  clear hW2
  refine wpIn_rangeFunc_ownF rfl (by omega) (gf := 37) (lb := #[.pointer (some ⟨w.heap.size + 2, 0, none⟩), .pointer (some ⟨w.heap.size + 2 + 1, 0, none⟩)]) rfl trivial (enters_of Try.func37 (by kernel_rfl) rfl)
    (chunk_stops _ (by omega) (w.heap.size + 2) w.heap.size a rb ro n c 3 (by decide) (by decide) (by omega) hnc hcm (HROW.out.imp id (fun h => h.1)) W2 (by omega) (by omega) hb0 hb1) (fun h k => KpC.trans h k) (kpC_b (by omega) (by omega)) (Below.refl _ _) (fun _ => rfl)
    (fun pre W => (IsB W (w.heap.size + 1) (w.heap.size + 1) (Lib.byteCells (preB xs (pre.map (·.1)))) ∧ Boxes (w.heap.size + 2) (.slice a n c) W) ∧ Below (w.heap.size + 1) wR W)
    (fun c pre W => False ∧ Below (w.heap.size + 1) wR W)
    (OwnFrom.and (Own.from (fun s A B row hs hg hr => ⟨ib_kept hs.1 hg (cells_kept hr), boxes_kept hs.2 hg (cells_kept hr)⟩) _) (ownFrom_below (by omega) (by omega)))
    (fun c => OwnFrom.and (Own.from (fun s A B row hs hg hr => hs.elim) _) (ownFrom_below (by omega) (by omega)))
    ⟨⟨sI, sX⟩, sB⟩
    (fun x => { tmps := #[.slice a n c, undef, .pointer (some ⟨w.heap.size, 0, none⟩), .pointer (some ⟨w.heap.size + 1, 0, none⟩), .slice (some ⟨rb, ro + 3 * x.1, none⟩) (min 3 (n - 3 * x.1)) (min 3 (n - 3 * x.1)), .slice a n c, .int .i64 n, .bool (decide ((3000 : Int) < (n : Int))), undef, .slice a n c,
      .func (.func 37) #[] #[.pointer (some ⟨w.heap.size + 2, 0, none⟩), .pointer (some ⟨w.heap.size + 2 + 1, 0, none⟩)], .slice (some ⟨rb, ro + 3 * x.1, none⟩) (min 3 (n - 3 * x.1)) (min 3 (n - 3 * x.1)), undef, undef, undef, undef], defers := [] }) ?assign ?body ?done ?stop
  case assign =>
    intro l x W K hK
    unfold encC
    gi_wp2
    exact hK
  case body =>
    rintro l pre x W ⟨⟨hI, hX⟩, hB⟩ hlt
    obtain ⟨k, hk⟩ := x
    obtain ⟨rfl, hrb, hcl⟩ := HROW.out.resolve_left (by omega)
    obtain ⟨m, hm⟩ : ∃ m, min 3 (n - 3 * k) = m := ⟨_, rfl⟩
    have hsz := hB.size
    have hpl : (Lib.byteCells (preB xs (pre.map (·.1)))).length ≤ 900000 := by
      rw [Lib.byteCells_length, preB_length, List.length_map]
      have : pre.length < pieces 3 n := by simpa using hlt
      omega
    have K := Lib.hid (writeGroup_any (w.heap.size + 1) (w.heap.size + 1) rb (ro + 3 * k) m m (Lib.byteCells (preB xs (pre.map (·.1)))) (grpAt xs k) W hI hpl (by omega) (by omega) (by omega) (by rw [grpAt_length, HL.out, hm])
      (fun i => by
        rcases Nat.lt_or_ge i 3 with h3 | h3
        · rw [grpAt_getD xs k i h3]; exact HBY.out _
        · rw [List.getD_eq_getElem?_getD, List.getElem?_eq_none (by rw [grpAt_length]; omega)]; decide) (by omega)
      (fun i hi => by
        rw [grpAt_getD xs k i (by omega), Nat.add_assoc]
        exact (hB.cell (p := ⟨rb, ro + (3 * k + i), none⟩) (by show rb < w.heap.size + 1; omega)).trans ((HRB.out.cell (p := ⟨rb, ro + (3 * k + i), none⟩) hrb).trans (hcl _ (by omega)))))
    have HSN := Lib.hid (preB_snoc xs (pre.map (·.1)) k)
    unfold GroupRes at K
    dsimp only
    rw [hm]
    have HI := Lib.hid hI
    have HX := Lib.hid hX
    have HB := Lib.hid hB
    clear sI sX sB hb0 hb1 hI hX hB hcl hpl hlt
    gi_wp2_with fail
    refine ⟨trivial, (CallsIn.inRound l (callsIn_wide.2 K.out)).mono ?_⟩
    rintro e w3 ⟨rfl, hA3, hB3, hK3⟩
    have HA3 := Lib.hid hA3
    have HB3 := Lib.hid hB3
    have HK3 := Lib.hid hK3
    have hs3 := hB3.size
    clear hA3 hB3 hK3 K
    gi_wp2
    have hX3 := boxes_b HX.out HK3.out (by omega) (by omega)
    refine ⟨keeps_b HI.out HK3.out hs3, ⟨HB3.out.mono (by omega), hX3.1.trans HX.out.1.symm, hX3.2.trans HX.out.2.symm⟩, ⟨?_, hX3⟩, HB.out.trans HB3.out⟩
    rw [List.map_append, List.map_cons, List.map_nil, HSN.out, Lib.byteCells_append]
    exact .inr HA3.out
  case done =>
    rintro D ys W hD hys ⟨⟨hI, _⟩, hB⟩ hK
    have hst : preB xs (ys.map (·.1)) = b64L xs := by rw [hys, HN.out]; rfl
    rw [hst] at hI
    have HI := Lib.hid hI
    have HB := Lib.hid hB
    have HK := Lib.hid hK
    have hzW := hB.size
    have KS := Lib.hid (Try.Builder_String_any_k (w.heap.size + 1) (w.heap.size + 1) (b64L xs) W hI (by omega))
    clear hys hst hI hB hK sI sX sB hb0 hb1
    gi_wp2_with fail
    refine ⟨trivial, (callsIn_wide.2 KS.out).mono ?_⟩
    rintro e w3 ⟨rfl, _, hB3, hKO⟩
    have hK3 : w3.heap[D]? = some (.deferred (some [])) := hKO D _ HK.out (fun e => absurd (show D = w.heap.size + 1 by simpa using e) (by omega)) (fun c fz e => by cases e)
    have HB3 := Lib.hid hB3
    clear hB3 hKO KS
    have hR3 : CodeB w3 w.heap.size 29 0 (.string ⟨#[]⟩) := (HB3.out.block w.heap.size (by omega)).trans ((HB.out.block w.heap.size (by omega)).trans HRC.out)
    have g0 := hR3.cell0
    have g1 := hR3.cell1
    have gf := hR3.free
    have HR3 := Lib.hid hR3
    have HK3 := Lib.hid hK3
    clear hR3 hK3
    gi_wp2
    have hR4 := HR3.out.set 0 (.string ⟨(b64L xs).toArray⟩)
    have hK' := ((KeepsOthers.setCell w3 ⟨w.heap.size, 0, none⟩ (.int .i64 0)).trans (KeepsOthers.setCell _ ⟨w.heap.size, 1, none⟩ (.string ⟨(b64L xs).toArray⟩))).same D _ HK3.out rfl
    refine ⟨by simp, .inl ⟨_, _, rfl, run_takeDeferred hK', ?_⟩⟩
    have hd0 := cell_kept hR4.cell0 (grownBy_putObj' _ D (.deferred none)) (fun r e => by cases e; exact ⟨_, hK', rfl⟩)
    have hd1 := cell_kept hR4.cell1 (grownBy_putObj' _ D (.deferred none)) (fun r e => by cases e; exact ⟨_, hK', rfl⟩)
    refine ⟨.agg #[.int .i64 0, .string ⟨(b64L xs).toArray⟩], ?_, rfl, (((HRB.out.trans ((HB.out.trans HB3.out).mono (by omega))).setCell (p := ⟨w.heap.size, 0, none⟩) (Nat.le_refl _) _).setCell (p := ⟨w.heap.size, 1, none⟩) (Nat.le_refl _) _).trans (belowK_b (w := w) (Nat.le_refl _) _ D _ _ (by omega) hK' rfl rfl)⟩
    simp [results, Try.f10, go_sem, hd0, hd1]
  case stop =>
    rintro D c pre W hD hpre ⟨h, _⟩ hK
    exact h.elim

/-- the program's Base64Of -/
theorem implBase64Of_any (a : Option Addr) (n c : Nat) (xs : List Int) (w : World) (hm : n ≤ 1048576) (hnc : n ≤ c) (hcm : c ≤ maxLen) (h : InRow w a n c xs) :
    Calls Try.prog 10 #[.slice a n c] w fun e w' => e = .returned (.agg #[.int .i64 (b64Code xs), .string (b64Text xs)]) ∧ Below w.heap.size w w' := by
  have hl := h.len
  unfold b64Code b64Text
  rw [hl]
  by_cases h3 : 3000 < n
  · rw [if_pos h3, if_pos h3]
    clear hl h
    go_enter Try.func10, Try.ntmps10
    go_wp2
    exact bodyPost_ret (v := .agg #[.int .i64 2, .string _]) (by simp [results, Try.results10, go_sem]; rfl) rfl ⟨rfl, below1 w _⟩
  · rw [if_neg h3, if_neg h3]
    exact callsIn_wide.1 (implBase64Of_in a n c xs w (by omega) hnc hcm h)
end Go.Proofs.Ytlhflkpbccbofaa
