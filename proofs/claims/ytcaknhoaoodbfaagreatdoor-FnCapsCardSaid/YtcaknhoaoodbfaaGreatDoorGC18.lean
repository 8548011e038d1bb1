/- The program's rising. -/
import Derived.Test.YtcaknhoaoodbfaaGreatDoorGC17
import Derived.Test.YtcaknhoaoodbfaaGreatDoorGC9
import Derived.Laws.EntriesVeiled
namespace Go.Proofs.YtcaknhoaoodbfaaGreatDoor
open Go.ChangeShapes Go.WideShapes Go.ChangeAt Go.RowKit Go.Shelf
set_option linter.unusedVariables false

/-- what is out, and what is left -/
def RiseSt (l ts L : List ByteArray) : Prop := (ts ++ L).Perm l ∧ ts.Pairwise leT ∧ (∀ t ∈ ts, ∀ y ∈ L, leT t y) ∧ IsHeap L
theorem rise_start {l L : List ByteArray} (h : IsHeap L) (hp : L.Perm l) : RiseSt l [] L := ⟨hp, List.Pairwise.nil, (fun t ht => by cases ht), h⟩
theorem rise_step {l ts L L' : List ByteArray} (h : RiseSt l ts L) (h0 : 0 < L.length) (hh : IsHeap L') (hp : L'.Perm (tk L)) : RiseSt l (ts ++ [ix L 0]) L' := by
  obtain ⟨h1, h2, h3, h4⟩ := h
  have hpp : L.Perm (ix L 0 :: L') := (tk_perm h0).trans (hp.symm.cons _)
  have hm : ix L 0 ∈ L := hpp.symm.subset (List.mem_cons_self ..)
  have hsub : ∀ y ∈ L', y ∈ L := fun y hy => hpp.symm.subset (List.mem_cons_of_mem _ hy)
  refine ⟨?_, ?_, fun t ht y hy => ?_, hh⟩
  · rw [List.append_assoc]
    exact ((List.Perm.append_left ts hpp.symm)).trans h1
  · rw [List.pairwise_append]
    exact ⟨h2, List.pairwise_singleton _ _, fun a ha b hb => by rw [List.mem_singleton.1 hb]; exact h3 a ha _ hm⟩
  · rcases List.mem_append.1 ht with ht | ht
    · exact h3 t ht y (hsub y hy)
    · rw [List.mem_singleton.1 ht]
      exact heap_min h4 y (hsub y hy)
theorem rise_done {l ts L : List ByteArray} (h : RiseSt l ts L) (h0 : L.length = 0) : ts = sortT l := by
  have e : L = [] := List.length_eq_zero_iff.1 h0
  subst e
  refine sortT_is ⟨?_, h.2.1⟩
  have := h.1
  rwa [List.append_nil] at this

theorem ib_only {P : Nat → Prop} {B b : Nat} {bs : List Value} {W W' : World} (h : IsB W B b bs) (ho : Only P W W') (hP : ∀ i, P i → i < B) : IsB W' B b bs := by
  rcases h with h | h
  all_goals
    have hlt := h.lt
    obtain ⟨hB, v, hv, hown, hne⟩ := h
    have hk : W'.ownsRowF B 5 1 v bs.length bs := by
      refine ⟨hown.1, ?_⟩
      rcases hown.2 with h2 | ⟨g, cap, cur, fz, hv2, hg, hh, r⟩
      · exact .inl h2
      · exact .inr ⟨g, cap, cur, fz, hv2, hg, by rw [ho.block g (Array.getElem?_eq_some_iff.1 hh).1 (fun hp => by have := hP g hp; omega)]; exact hh, r⟩
  · exact .inl ⟨hB, v, (ho.block b hlt (fun hp => by have := hP b hp; omega)).trans hv, hk, hne⟩
  · exact .inr ⟨hB, v, (ho.block b hlt (fun hp => by have := hP b hp; omega)).trans hv, hk, hne⟩
theorem linesT_fewR : ∀ (l : List ByteArray) (m : Nat), (∀ x ∈ l, x.size ≤ m) → (linesT l).length ≤ (m + 1) * l.length
  | [], m, _ => by simp [linesT]
  | x :: l, m, h => by
    have h1 := h x (List.mem_cons_self ..)
    have h2 := linesT_fewR l m (fun y hy => h y (List.mem_cons_of_mem _ hy))
    have e1 : x.data.toList.length = x.size := rfl
    have e2 : linesT (x :: l) = (x.data.toList ++ [60]) ++ linesT l := by simp [linesT]
    rw [e2]
    simp only [List.length_append, e1, List.length_cons, List.length_nil, Nat.mul_add]
    omega
theorem RiseSt.sizes {l ts L : List ByteArray} (h : RiseSt l ts L) {n m : Nat} (hl : l.length = n) (hs : ∀ i, i < n → (l.getD i ByteArray.empty).size ≤ m) : (∀ x ∈ ts, x.size ≤ m) ∧ (∀ x ∈ L, x.size ≤ m) := by
  have key : ∀ x ∈ l, x.size ≤ m := fun x hx => by
    obtain ⟨i, hi, rfl⟩ := List.getElem_of_mem hx
    have := hs i (by omega)
    rwa [List.getD_eq_getElem?_getD, List.getElem?_eq_getElem hi] at this
  exact ⟨fun x hx => key x (h.1.subset (List.mem_append_left _ hx)), fun x hx => key x (h.1.subset (List.mem_append_right _ hx))⟩
theorem byteCells_lines (ts : List ByteArray) (t : ByteArray) : Lib.byteCells (linesT ts) ++ Lib.strCells (t ++ ⟨#[60]⟩) = Lib.byteCells (linesT (ts ++ [t])) := by
  unfold Lib.strCells Lib.byteCells
  rw [linesT_snoc, ← List.map_append]
  simp [ByteArray.data_append]
theorem strCells_lines (ts : List ByteArray) (t : ByteArray) : Lib.strCells ⟨(linesT ts).toArray⟩ ++ Lib.strCells (t ++ ⟨#[60]⟩) = Lib.strCells ⟨(linesT (ts ++ [t])).toArray⟩ := by
  unfold Lib.strCells
  rw [linesT_snoc, ← List.map_append]
  simp [ByteArray.data_append]

set_option maxRecDepth 100000 in
set_option maxHeartbeats 3200000 in
theorem rising_any (a : Option Addr) (n c : Nat) (l : List ByteArray) (w : World) (hn : n ≤ 20) (hsz : ∀ i, i < n → (l.getD i ByteArray.empty).size ≤ 5000000) (h : StsAt w a n c l) :
    Calls Tryz.prog 92 #[.slice a n c] w fun e w' => e = .returned (.string ⟨(linesT (sortT l)).toArray⟩) ∧ Below w.heap.size w w' := by
  have HR := Lib.hid h.row
  have HL := Lib.hid h.len
  have HSZ := Lib.hid hsz
  clear h hsz
  go_enter Tryz.func92, Tryz.ntmps92
  go_wp2
  go_loopw [10] (fun i wr => ∃ (k : Nat) (v : Value) (L : List ByteArray), k ≤ n ∧ i = .int .i64 k ∧ HeapR wr w.heap.size w.heap.size v L ∧ L.length = k ∧ Hid (IsHeap L ∧ L.Perm (l.take k)) ∧ Below w.heap.size w wr) (fun i _ => n - (intOf i).toNat)
  case atStart =>
    refine ⟨0, .slice none 0 0, [], Nat.zero_le _, rfl, ⟨⟨?_, ?_, ?_, ?_⟩, ?_, ?_, Nat.le_refl _⟩, rfl, Lib.hid ⟨fun i _ h => by simp at h, List.Perm.refl _⟩, ?_⟩
    · simp
    · simp
    · simp
    · simp
    · exact World.ownsRow_nil _ _ _ _
    · simp [Value.ownBlock]
    · exact below1 _ _
  case round =>
    obtain ⟨k, v, L, hk, rfl, hr, hLk, HP, hbl⟩ := hrel
    have HRR := Lib.hid hr
    have HB := Lib.hid hbl
    have hhb := hr.is.lt
    by_cases hlt : k < n
    · rcases HR.out with e0 | ⟨b, o, rfl, hbw, hrow⟩
      · omega
      have d0 := (hbl.cell (p := ⟨b, o + k, none⟩) hbw).trans (hrow k hlt)
      have HT : Hid (l.take (k + 1) = l.take k ++ [l.getD k ByteArray.empty]) := Lib.hid (by rw [List.take_succ_eq_append_getElem (by have := HL.out; omega), List.getD_eq_getElem?_getD, List.getElem?_eq_getElem (by have := HL.out; omega)]; rfl)
      generalize l.getD k ByteArray.empty = x at d0 HT
      have K := Lib.hid (put_any w.heap.size w.heap.size v L x wr (by omega) hr HP.out.1)
      unfold PutRes9 at K
      have q1 : (k : Int) < (n : Int) := by omega
      have HLK := Lib.hid hLk
      clear hrow hr hbl hLk
      go_wp2_with fail
      refine K.out.mono ?_
      rintro e w1 ⟨rfl, v', L', hr1, HP1, hb1⟩
      have HR1 := Lib.hid hr1
      have HB1 := Lib.hid (HB.out.trans hb1)
      clear hr1 hb1
      go_wp2
      go_roundw
      case rel => exact ⟨k + 1, v', L', by omega, by go_num, HR1.out, by rw [HP1.out.1, HLK.out], Lib.hid ⟨HP1.out.2.1, by rw [HT.out]; exact HP1.out.2.2.trans (HP.out.2.append_right _)⟩, HB1.out⟩
      case measure => simp [intOf]; omega
    · obtain rfl : k = n := by omega
      have HPL : Hid (L.Perm l) := Lib.hid (by have := HP.out.2; rwa [← HL.out, List.take_length] at this)
      have HLK := Lib.hid hLk
      clear hr hbl hLk
      obtain ⟨g, c', HV⟩ : ∃ g c', Hid ((k = 0 ∨ (v = .slice (some ⟨g, 0, none⟩) k c' ∧ RowC wr g L ∧ g ≠ w.heap.size ∧ w.heap.size ≤ g ∧ k ≤ c'))) := by
        rcases Nat.eq_zero_or_pos k with h0 | h0
        · exact ⟨0, 0, Lib.hid (.inl h0)⟩
        · obtain ⟨g, c', h1, h2, h3, h4⟩ := HRR.out.row (by have := HLK.out; omega)
          refine ⟨g, c', Lib.hid (.inr ⟨by rw [h1, HLK.out], h2, h3, h4, ?_⟩)⟩
          rcases HRR.out.own.2 with ⟨hv, e0⟩ | ⟨g2, cap, cur, hv, _, _, hcap, _⟩
          · have := HLK.out; omega
          · rw [hv] at h1
            simp only [Value.slice.injEq] at h1
            have := HLK.out
            omega
      obtain ⟨wo, hwo⟩ : ∃ wo, wo = wr := ⟨_, rfl⟩
      subst hwo
      go_wp2_with fail
      have hIB : IsB (wo.alloc (.cells #[.pointer none, .slice none 0 0] 176)) wo.heap.size wo.heap.size (Lib.byteCells (linesT [])) := Lib.IsBuilderF.of (Lib.fresh_isBuilder _ _ wo)
      have HIB := Lib.hid hIB
      clear hIB
      go_loopw [19] (fun i w2 => ∃ (j : Nat) (ts L' : List ByteArray), j ≤ k ∧ i = .int .i64 j ∧ ts.length = j ∧ L'.length = k - j ∧ Hid (RiseSt l ts L') ∧ Hid (k = 0 ∨ (HeapC w2 w.heap.size (.slice (some ⟨g, 0, none⟩) (k - j) c') ∧ RowC w2 g L')) ∧ IsB w2 wo.heap.size wo.heap.size (Lib.byteCells (linesT ts)) ∧ Below w.heap.size w w2 ∧ wo.heap.size < w2.heap.size) (fun i _ => k - (intOf i).toNat)
      case atStart =>
        refine ⟨0, [], L, Nat.zero_le _, rfl, rfl, HLK.out, Lib.hid (rise_start HP.out.1 HPL.out), Lib.hid ?_, HIB.out, HB.out.trans ((below1 wo _).mono HB.out.size), by simp⟩
        rcases HV.out with h0 | ⟨h1, h2, _⟩
        · exact .inl h0
        · have h3 := HRR.out.is
          rw [h1] at h3
          exact .inr ⟨h3.only (Only.below (P := fun _ => False) (below1 wo _)) (fun h => h), h2.only (Only.below (P := fun _ => False) (below1 wo _)) (fun h => h)⟩
      case round =>
        clear HIB
        obtain ⟨j, ts, L', hj, rfl, hts, hL', HS, HHR, hib, hb2, hsz⟩ := hrel
        have HI2 := Lib.hid hib
        have HB2 := Lib.hid hb2
        have HTS := Lib.hid hts
        have HLL := Lib.hid hL'
        clear hib hb2 hts hL'
        have hlen := linesT_fewR ts 5000000 (HS.out.sizes HL.out HSZ.out).1
        rw [HTS.out] at hlen
        by_cases hjk : j < k
        · obtain ⟨hc, hr⟩ := HHR.out.resolve_left (by omega)
          obtain ⟨h1, h2, h3, h4, h5⟩ := HV.out.resolve_left (by omega)
          obtain ⟨m, hm⟩ : ∃ m, k - j = m + 1 := ⟨k - j - 1, by omega⟩
          have h0 : 0 < L'.length := by have := HLL.out; omega
          have hx : (ix L' 0).size ≤ 5000000 := (HS.out.sizes HL.out HSZ.out).2 _ (by
            show L'.getD 0 ByteArray.empty ∈ L'
            rw [List.getD_eq_getElem?_getD, List.getElem?_eq_getElem h0]
            exact List.getElem_mem h0)
          rw [hm] at hc
          have K := Lib.hid (take_any w.heap.size g m c' L' wr (by rw [HLL.out, hm]) (by omega) (by omega) h3 hc hr HS.out.2.2.2)
          have HSTEP : Hid (∀ L2, IsHeap L2 → L2.Perm (tk L') → RiseSt l (ts ++ [ix L' 0]) L2) := Lib.hid fun L2 q1 q2 => rise_step HS.out h0 q1 q2
          have HBC := Lib.hid (byteCells_lines ts (ix L' 0))
          have HTS2 : Hid ((ts ++ [ix L' 0]).length = j + 1) := Lib.hid (by rw [List.length_append, HTS.out]; rfl)
          have HGL := Lib.hid h2.lt
          have HGH := Lib.hid h3
          unfold TakeRes at K
          generalize ix L' 0 = x at K HSTEP HBC hx HTS2
          have q1 : (j : Int) < (k : Int) := by omega
          have q2 : ¬ 9223372036854775807 < x.size + 1 := by omega
          clear hc hr h1 h2 h3 h4 h5 HHR
          go_wp2_with fail
          refine K.out.mono ?_
          rintro e w3 ⟨rfl, L2, hc3, hr3, HX3, ho3⟩
          have hib3 := ib_only HI2.out ho3 (fun i hi => by have := HGL.out; rcases hi with rfl | rfl <;> omega)
          have hbb := HB2.out
          have hB3 : Below w.heap.size w w3 := Only.under hbb (Nat.le_refl _) ho3 (fun i hi => by
            rcases hi with rfl | rfl
            · have := (HV.out.resolve_left (by omega)).2.2.2.1; omega
            · exact Nat.le_refl _)
          have hsz3 : wo.heap.size < w3.heap.size := Nat.lt_of_lt_of_le hsz ho3.size
          have HC3 := Lib.hid hc3
          have HR3 := Lib.hid hr3
          have HB3 := Lib.hid hB3
          have KW := Lib.hid (writeString_any wo.heap.size wo.heap.size _ (x ++ ⟨#[60]⟩) w3 hib3 (by rw [Lib.byteCells_length]; omega) (by rw [ByteArray.size_append]; show x.size + 1 ≤ _; omega) (by omega))
          unfold WroteS at KW
          rw [HBC.out] at KW
          clear hc3 hr3 ho3 hib3 hbb hB3 HI2 HB2 K HBC
          go_wp2_with fail
          refine KW.out.mono ?_
          rintro e w4 ⟨rfl, hat4, hb4, hk4⟩
          have HI4 : Hid (IsB w4 wo.heap.size wo.heap.size (Lib.byteCells (linesT (ts ++ [x])))) := Lib.hid (.inr hat4)
          have HB4 := Lib.hid (HB3.out.trans (hb4.mono HB.out.size))
          have hhl := HGL.out
          have hhb2 : w.heap.size < wo.heap.size := hhb
          have keep : ∀ b, b < wo.heap.size → w4.heap[b]? = w3.heap[b]? := fun b hb => hb4.block b hb
          have HC4 : Hid (HeapC w4 w.heap.size (.slice (some ⟨g, 0, none⟩) m c')) := Lib.hid ⟨Nat.lt_of_lt_of_le HC3.out.lt hb4.size, (World.cell?_of_block (keep _ hhb2)).trans HC3.out.c0, (World.cell?_of_block (keep _ hhb2)).trans HC3.out.c1, (World.frozen?_of_block (keep _ hhb2)).trans HC3.out.free⟩
          have HR4 : Hid (RowC w4 g L2) := Lib.hid ⟨Nat.lt_of_lt_of_le HR3.out.lt hb4.size, fun i hi => (World.cell?_of_block (keep _ hhl)).trans (HR3.out.cell i hi), fun i hi => (World.frozen?_of_block (keep _ hhl)).trans (HR3.out.free i hi)⟩
          have hs4 : wo.heap.size < w4.heap.size := Nat.lt_of_lt_of_le hsz3 hb4.size
          clear hat4 hb4 hk4 keep HC3 HR3 HB3 KW
          go_wp2
          go_roundw
          case rel => exact ⟨j + 1, ts ++ [x], L2, by omega, by go_num, HTS2.out, by rw [HX3.out.1]; omega, Lib.hid (HSTEP.out L2 HX3.out.2.1 HX3.out.2.2), Lib.hid (.inr ⟨by rw [show k - (j + 1) = m by omega]; exact HC4.out, HR4.out⟩), HI4.out, HB4.out, hs4⟩
          case measure => simp [intOf]; omega
        · obtain rfl : j = k := by omega
          have HSO := Lib.hid (rise_done HS.out (by have := HLL.out; omega))
          have KS := Lib.hid (Tryz.Builder_String_any_k wo.heap.size wo.heap.size (linesT ts) wr HI2.out (by omega))
          go_wp2_with fail
          refine KS.out.mono ?_
          rintro e w3 ⟨rfl, _, hb3, _⟩
          go_wp2
          go_ret
          exact ⟨by have hq := HSO.out; subst hq; rfl, HB2.out.trans (hb3.mono HB.out.size)⟩
end Go.Proofs.YtcaknhoaoodbfaaGreatDoor
