/- The contract of the draw of a text for its points. -/
import Derived.Test.YtmgemchpclmknaaDoorDraw3
import Derived.ArgAppend
namespace Go.Proofs.YtmgemchpclmknaaDoor
open Go.ChangeShapes Go.WideShapes Go.ChangeAt Go.RowKit
set_option linter.unusedVariables false

theorem u8Und : Tryd.prog.underlying 22 = some (.slice 5) := Tryd.underlying22

/-- a text's bytes, as numbers -/
def numsOf (s : ByteArray) : List Int := s.data.toList.map (fun b => (b.toNat : Int))
theorem numsOf_length (s : ByteArray) : (numsOf s).length = s.size := by unfold numsOf; simp

/-- block g holds c places; those from l on may be written -/
structure Spare (w : World) (g l c : Nat) : Prop where
  cap : l ≤ c
  max : c ≤ maxLen
  lt : g < w.heap.size
  cell : ∀ j, j < c → (w.cell? ⟨g, j, none⟩).isSome = true
  free : ∀ j, j < c → w.frozen? ⟨g, j, none⟩ = false
theorem Spare.grown {w w' : World} {g l c : Nat} {row : Option Nat} (h : Spare w g l c) (hg : w.grownBy w' row) (hne : row ≠ some g) : Spare w' g l c := by
  have hb : w'.heap[g]? = w.heap[g]? := hg.block g h.lt (fun e => hne e.symm)
  exact ⟨h.cap, h.max, Nat.lt_of_lt_of_le h.lt hg.size, fun j hj => by rw [World.cell?_of_block (w := w) hb]; exact h.cell j hj, fun j hj => by rw [World.frozen?_of_block (w := w) hb]; exact h.free j hj⟩
theorem Spare.alloc {w : World} {g l c : Nat} (h : Spare w g l c) (o : Obj) : Spare (w.alloc o) g l c := h.grown (grown_of_below (below1 w o) none) (by simp)

theorem bytes_heap (W : World) (C : Array Value) (e : TypeId) (fz : Nat × Nat) : (W.drew.alloc (.cells C e fz)).heap[W.heap.size]? = some (.cells C e fz) := by
  show (W.heap.push (.cells C e fz))[W.heap.size]? = _
  simp
theorem bytesRow_size (s : ByteArray) (c : Nat) (h : s.size ≤ c) : (bytesRow s c).size = c := by
  unfold bytesRow
  have : s.data.size = s.size := rfl
  simp
  omega
theorem bytes_new (W : World) (s : ByteArray) (e : TypeId) (hs : s.size ≤ maxLen) :
    Spare (W.alloc (.cells (bytesRow s (grownCap W s.size 0 e)) e ((bytesRow s (grownCap W s.size 0 e)).size, (bytesRow s (grownCap W s.size 0 e)).size + 1))).drew W.heap.size s.size (grownCap W s.size 0 e) ∧
    Row (W.alloc (.cells (bytesRow s (grownCap W s.size 0 e)) e ((bytesRow s (grownCap W s.size 0 e)).size, (bytesRow s (grownCap W s.size 0 e)).size + 1))).drew .u8 (.slice (some ⟨W.heap.size, 0, none⟩) s.size (grownCap W s.size 0 e)) (numsOf s) ∧ grownCap W s.size 0 e ≤ maxLen ∧ s.size ≤ grownCap W s.size 0 e := by
  have hge := grownCap_ge W s.size 0 e
  have hle := grownCap_le_maxLen W s.size 0 e hs
  generalize grownCap W s.size 0 e = c at hge hle ⊢
  have hh : ((W.alloc (.cells (bytesRow s c) e ((bytesRow s c).size, (bytesRow s c).size + 1))).drew).heap[W.heap.size]? = some (.cells (bytesRow s c) e ((bytesRow s c).size, (bytesRow s c).size + 1)) := heap_alloc_new W _
  have hz := bytesRow_size s c hge
  have hlt : W.heap.size < ((W.alloc (.cells (bytesRow s c) e ((bytesRow s c).size, (bytesRow s c).size + 1))).drew).heap.size := by simp
  refine ⟨⟨hge, hle, hlt, fun j hj => ?_, fun j hj => ?_⟩, .inr ⟨W.heap.size, 0, c, by rw [numsOf_length], by rw [numsOf_length]; exact hge, hle, hlt, fun i hi => ?_⟩, hle, hge⟩
  · rw [cell_of_row _ _ _ _ _ _ hh, Array.getElem?_eq_getElem (by omega)]
    rfl
  · unfold World.frozen?
    rw [hh]
    simp [hz]
    omega
  · rw [numsOf_length] at hi
    rw [Nat.zero_add, cell_of_row _ _ _ _ _ _ hh, bytesRow_at s c i hi]
    unfold numsOf
    rw [List.getD_eq_getElem?_getD, List.getElem?_map, List.getElem?_eq_getElem (by simpa using hi)]
    rfl

theorem below_stored {B g : Nat} (hg : B ≤ g) : ∀ (vs : List Value) (o : Nat) (w : World), Below B w (w.setCells g o vs)
  | [], _, w => Below.refl B w
  | v :: r, o, w => ((Below.refl B w).setCell (p := ⟨g, o, none⟩) hg v).trans (below_stored hg r (o + 1) _)

/-- behind the storing of more bytes into the room behind a slice -/
theorem row_stored {w : World} {g l c m : Nat} {ys zs : List Int} (h : Spare w g l c) (hr : Row w .u8 (.slice (some ⟨g, 0, none⟩) l c) ys) (hm : zs.length = m) (hc : l + m ≤ c) (o : Nat) (ho : o = l) :
    Row (w.setCells g o (zs.map (Value.int .u8))) .u8 (.slice (some ⟨g, 0, none⟩) (l + m) c) (ys ++ zs) := by
  subst ho
  subst hm
  rcases hr with ⟨hv, _⟩ | ⟨b, off, cap, hv, h1, h2, h3, h4⟩
  · simp at hv
  · simp only [Value.slice.injEq, Option.some.injEq, Addr.mk.injEq, and_true] at hv
    obtain ⟨⟨rfl, rfl⟩, hl, rfl⟩ := hv
    subst hl
    refine .inr ⟨g, 0, c, by rw [List.length_append], by rw [List.length_append]; exact hc, h2, ?_, fun i hi => ?_⟩
    · exact Nat.lt_of_lt_of_le h3 (below_stored (Nat.le_refl g) _ _ w).size
    · rw [List.length_append] at hi
      by_cases hil : i < ys.length
      · rw [World.cell?_setCells_out g _ _ _ _ (fun _ _ => .inl (by simpa using hil)), h4 i hil]
        simp only [List.getD_eq_getElem?_getD, List.getElem?_append_left hil]
      · have := World.cell?_setCells_in g (zs.map (Value.int .u8)) ys.length w (fun j hj => h.cell _ (by simp at hj; omega)) (i - ys.length) (by simp; omega)
        rw [show 0 + i = ys.length + (i - ys.length) by omega, this, List.getElem_map, List.getD_eq_getElem?_getD, List.getElem?_append_right (by omega), List.getElem?_eq_getElem (by omega)]
        rfl

theorem Row.upto {w : World} {k : IntKind} {b l c : Nat} {ys : List Int} (h : Row w k (.slice (some ⟨b, 0, none⟩) l c) ys) (m : Nat) (hm : m ≤ l) : Row w k (.slice (some ⟨b, 0, none⟩) m c) (ys.take m) := by
  rcases h with ⟨hv, _⟩ | ⟨b, off, cap, hv, h1, h2, h3, h4⟩
  · simp at hv
  · simp only [Value.slice.injEq, Option.some.injEq, Addr.mk.injEq, and_true] at hv
    obtain ⟨⟨rfl, rfl⟩, hl, rfl⟩ := hv
    subst hl
    have hlen : (ys.take m).length = m := by rw [List.length_take]; omega
    refine .inr ⟨_, 0, c, by rw [hlen], by omega, h2, h3, fun i hi => ?_⟩
    rw [hlen] at hi
    rw [h4 i (by omega)]
    simp only [List.getD_eq_getElem?_getD, List.getElem?_take, hi, if_true]

/-- a source lives on where nothing up to its block is turned -/
theorem Src.below2 {w w' : World} {b : Nat} {a : Option Addr} {n c : Nat} {xs : List Int} {k : Nat} (h : Src w b a n c xs k) (hb : Below (b + 1) w w') : Src w' b a n c xs k := by
  refine ⟨Nat.lt_of_lt_of_le h.lt hb.size, (hb.cell (p := ⟨b, 0, none⟩) (Nat.lt_succ_self b)).trans h.c0, (hb.cell (p := ⟨b, 1, none⟩) (Nat.lt_succ_self b)).trans h.c1, (hb.frozen (p := ⟨b, 1, none⟩) (Nat.lt_succ_self b)).trans h.f1, h.len, ?_, h.byte, h.size, h.far⟩
  rcases h.row with e | ⟨rb, ro, ha, hrb, hc⟩
  · exact .inl e
  · exact .inr ⟨rb, ro, ha, hrb, fun i hi => (hb.cell (p := ⟨rb, ro + i, none⟩) (Nat.lt_succ_of_lt hrb)).trans (hc i hi)⟩

set_option maxHeartbeats 3200000 in
theorem drawPointsOf_any (a : Option Addr) (n c : Nat) (xs : List Int) (w : World) (h : CodeAt w a n c xs) :
    Calls Tryd.prog 13 #[.slice a n c] w (TopText w 5000) := by
  have HC := Lib.hid h
  clear h
  go_enter Tryd.func13, Tryd.ntmps13
  go_wp2_with fail
  refine (source_any HC.out).mono ?_
  rintro e w1 ⟨rfl, hs, hb⟩
  have HS := Lib.hid hs
  have HB := Lib.hid hb
  clear hs hb
  go_wp2_with fail
  refine (l1DrawText_any _ a n c xs 0 8 (by decide) (by decide) _ HS.out).mono ?_
  rintro e w2 ⟨t, k, rfl, ht, hk, hs2, hg2⟩
  have hlt2 := hs2.lt
  have HS2 := Lib.hid hs2
  have HB2 := Lib.hid (below_step HB.out hg2 (Nat.le_refl _))
  clear hs2 hg2
  have hcv := fun (W : World) => run_bytes_of_string (P := Tryd.prog) W _ _ _ t Tryd.underlying9 u8Und Tryd.underlying5
  obtain ⟨hsp, hrow, hcm, hcg⟩ := bytes_new w2 t 5 (by unfold maxLen; omega)
  go_wp2_with fail
  clear hcv
  have hsrc : Src (w2.alloc (.cells (bytesRow t (grownCap w2 t.size 0 5)) 5 ((bytesRow t (grownCap w2 t.size 0 5)).size, (bytesRow t (grownCap w2 t.size 0 5)).size + 1))).drew w.heap.size a n c xs k := HS2.out.below ((below1 w2 _).trans ((Below.refl _ _).drew))
  have hbb : Below w.heap.size w (w2.alloc (.cells (bytesRow t (grownCap w2 t.size 0 5)) 5 ((bytesRow t (grownCap w2 t.size 0 5)).size, (bytesRow t (grownCap w2 t.size 0 5)).size + 1))).drew := (HB2.out.alloc HB2.out.size _).trans ((Below.refl _ _).drew)
  have hsz2 : w2.heap.size < ((w2.alloc (.cells (bytesRow t (grownCap w2 t.size 0 5)) 5 ((bytesRow t (grownCap w2 t.size 0 5)).size, (bytesRow t (grownCap w2 t.size 0 5)).size + 1))).drew).heap.size := by simp
  generalize (w2.alloc (.cells (bytesRow t (grownCap w2 t.size 0 5)) 5 ((bytesRow t (grownCap w2 t.size 0 5)).size, (bytesRow t (grownCap w2 t.size 0 5)).size + 1))).drew = W at hsp hrow hsrc hbb hsz2 ⊢
  generalize grownCap w2 t.size 0 5 = cap at hsp hrow hcm hcg ⊢
  have hg0 : w.heap.size < w2.heap.size := hlt2
  generalize w2.heap.size = g at hsp hrow hg0 hsz2 ⊢
  have HSP := Lib.hid hsp
  have HROW := Lib.hid hrow
  have HSRC := Lib.hid hsrc
  have HBB := Lib.hid hbb
  clear hsp hrow hsrc hbb HS2 HB2 hlt2
  obtain ⟨i0, hi, hz0, hz1, hz2⟩ := info_parts u8Info
  unfold maxLen at hcm
  refine (l1Next_any _ a n c xs k 4 (by decide) (by decide) (by omega) _ HSRC.out).mono ?_
  rintro e w3 ⟨r, rfl, hr, hs3, hg3⟩
  have hr1 := hr (by decide)
  have hlt3 := hs3.lt
  have hsz3 : g < w3.heap.size := Nat.lt_of_lt_of_le hsz2 hg3.size
  have hgne : ∀ (l c : Nat), (Value.slice (some ⟨g, 0, none⟩) l c).ownBlock ≠ some w.heap.size := fun l c e => by simp [Value.ownBlock] at e; omega
  have HS3 := Lib.hid hs3
  have HR3 := Lib.hid (HROW.out.grown hg3 (fun j e => by cases e; exact hgne _ _))
  have HSP3 := Lib.hid (HSP.out.grown hg3 (fun e => by injection e with e; omega))
  have HB3 := Lib.hid (below_step HBB.out hg3 (Nat.le_refl _))
  clear hs3 hg3 hr HROW HSP HSRC HBB
  by_cases r0 : r = 0
  · subst r0
    go_wp2_with fail
    refine (l1Pick_any _ a n c xs (k + 1) w3.heap.size 3 _ rfl (by decide) (by decide) (by omega) _ (HS3.out.alloc _) (lit_row w3 _ .i64 [1, 2, 4] 3 rfl (by decide)) (by omega)).mono ?_
    rintro e w4 ⟨z, rfl, hz, hs4, hg4⟩
    have hq : ∃ q : Nat, z = (q : Int) ∧ 1 ≤ q ∧ q ≤ 4 := by
      simp at hz
      exact ⟨z.toNat, by omega, by omega, by omega⟩
    obtain ⟨q, rfl, hq1, hq4⟩ := hq
    have hsz4 : g < w4.heap.size := by have := hg4.size; simp at this; omega
    have HS4 := Lib.hid hs4
    have HR4 := Lib.hid ((HR3.out.below (below1 w3 _)).grown hg4 (fun j e => by cases e; exact hgne _ _))
    have HSP4 := Lib.hid ((HSP3.out.alloc _).grown hg4 (fun e => by injection e with e; omega))
    have HB4 := Lib.hid (below_step (HB3.out.alloc HB3.out.size _) hg4 (Nat.le_refl _))
    clear hz hs4 hg4 HS3 HR3 HSP3 HB3
    go_wp2_with fail
    refine (l1Some_any _ a n c xs (k + 1 + 1) q (by omega) (by omega) _ HS4.out).mono ?_
    rintro e w5 ⟨a5, c5, zs, rfl, ho5, hs5, hg5⟩
    have hlen5 := owns_length ho5
    have hlt5 := hs5.lt
    have hsz5 : g < w5.heap.size := Nat.lt_of_lt_of_le hsz4 hg5.size
    rcases ho5.2 with ⟨hv, h0⟩ | ⟨g5, cap5, cur5, hv, _⟩
    · exfalso
      omega
    · simp only [Value.slice.injEq] at hv
      obtain ⟨rfl, _, rfl⟩ := hv
      have HO5 := Lib.hid ho5
      have HS5 := Lib.hid hs5
      have HR5 := Lib.hid (HR4.out.grown hg5 (fun j e => by cases e; exact hgne _ _))
      have HSP5 := Lib.hid (HSP4.out.grown hg5 (fun e => by injection e with e; omega))
      have HB5 := Lib.hid (below_step HB4.out hg5 (Nat.le_refl _))
      have HL5 := Lib.hid hlen5
      clear ho5 hs5 hg5 HS4 HR4 HSP4 HB4 hlen5
      have hcells : ∀ j u, ((numsOf t).map (Value.int .u8))[j]? = some u → w5.cell? ⟨g, 0 + j, none⟩ = some u := by
        intro j u hj
        obtain ⟨hj1, hj2⟩ := List.getElem?_eq_some_iff.1 hj
        have hjl : j < (numsOf t).length := by simpa using hj1
        rcases HR5.out with ⟨hv, _⟩ | ⟨b, off, cap', hv, h1, h2, h3, h4⟩
        · simp at hv
        · simp only [Value.slice.injEq, Option.some.injEq, Addr.mk.injEq, and_true] at hv
          obtain ⟨⟨rfl, rfl⟩, _, rfl⟩ := hv
          rw [h4 j hjl, ← hj2, List.getElem_map, List.getD_eq_getElem?_getD, List.getElem?_eq_getElem hjl]
          rfl
      go_wp2_with (at_builtin; refine wpList_append_arg _ rfl _ _ 22 rfl 5 i0 (.int .u8 0) 1 1 u8Und hi hz0 hz1 hz2 rfl (by decide) g 0 t.size cap ((numsOf t).map (Value.int .u8)) rfl ?c1 hcells ⟨g5, 0, none⟩ q c5 (zs.map (Value.int .u8)) rfl ?c2 ?c3 ?c4 ?c5 ?c6 ?c7 ?room ?grow)
      case c1 => rw [List.length_map, numsOf_length, Nat.mul_one]
      case c2 => rw [List.length_map]; have := HL5.out; omega
      case c3 => exact HO5.out.cells (g := g5) rfl
      case c4 => exact ints_oneCell _ _
      case c5 => exact fun hle j hj => by have := HL5.out; rw [List.length_map] at hj; exact ⟨HSP5.out.cell _ (by omega), HSP5.out.free _ (by omega)⟩
      case c6 => unfold maxLen; omega
      case c7 => omega
      case room =>
        intro hroom
        have HR5b := Lib.hid (row_stored HSP5.out HR5.out HL5.out.symm hroom t.size rfl)
        have HB5b := Lib.hid (HB5.out.trans (below_stored (Nat.le_of_lt hg0) (zs.map (Value.int .u8)) t.size w5))
        have HS5b := Lib.hid (HS5.out.below2 (below_stored (Nat.succ_le_of_lt hg0) (zs.map (Value.int .u8)) t.size w5))
        have hyl : ((numsOf t) ++ zs).length ≤ 5000 := by have := HL5.out; rw [List.length_append, numsOf_length]; omega
        clear HR5 HB5 HS5 hcells HO5 HSP5
        try simp only [Nat.zero_add, Nat.mul_one]
        generalize w5.setCells g t.size (zs.map (Value.int .u8)) = W5 at HR5b HB5b HS5b ⊢
        go_wp2_with fail
        refine (l1Chance_any _ a n c xs (k + 1 + 1 + q) 40 (by decide) (by decide) (by omega) _ HS5b.out).mono ?_
        rintro e w6 ⟨⟨tt, rfl⟩, hs6, hg6⟩
        have hlt6 := hs6.lt
        have HS6 := Lib.hid hs6
        have HR6 := Lib.hid (HR5b.out.grown hg6 (fun j e => by cases e; exact hgne _ _))
        have HB6 := Lib.hid (below_step HB5b.out hg6 (Nat.le_refl _))
        clear hs6 hg6
        cases tt
        · have hcv2 := conv_row (P := Tryd.prog) w6 Tryd.underlying22 Tryd.underlying5 Tryd.underlying9 HR6.out
          go_wp2
          go_ret
          exact ⟨_, rfl, by rw [strOfNums_size]; exact hyl, HB6.out⟩
        · go_wp2_with fail
          refine (l1Pick_any _ a n c xs ((k + 1 + 1 + q) + 1) w6.heap.size 2 _ rfl (by decide) (by decide) (by omega) _ (HS6.out.alloc _) (lit_row w6 _ .i64 [4000, 4001] 2 rfl (by decide)) (by omega)).mono ?_
          rintro e w7 ⟨z, rfl, hz, hs7, hg7⟩
          have hz2 : ∃ q : Nat, z = (q : Int) ∧ q ≤ 4001 := by
            simp at hz
            exact ⟨z.toNat, by omega, by omega⟩
          obtain ⟨q, rfl, hq⟩ := hz2
          have HB7 := Lib.hid (below_step (HB6.out.alloc HB6.out.size _) hg7 (Nat.le_refl _))
          clear hz hs7 hg7
          go_wp2_with (at_make; refine wpList_make_full _ rfl _ _ 22 rfl w.heap.size 5 i0 (.int .u8 0) 1 u8Und hi hz0 hz1 _ _ _ _ q rfl rfl rfl rfl ?_ ?_ ?_ ?_)
          · rw [hz2]; omega
          · unfold maxLen; omega
          · exact HB7.out.size
          intro w8 hown8 hgrow8
          rw [show (madeCells #[Value.int IntKind.u8 0] q).toList = (List.replicate q (0 : Int)).map (Value.int .u8) by rw [toList_madeCells_one, List.map_replicate]] at hown8
          have hcv2 := conv_row (P := Tryd.prog) w8 Tryd.underlying22 Tryd.underlying5 Tryd.underlying9 (Row.of_owns hown8)
          have HB8 := Lib.hid (HB7.out.grown hgrow8 HB7.out.size (fun k e => by cases e))
          clear hown8 hgrow8
          go_wp2
          go_ret
          exact ⟨_, rfl, by rw [strOfNums_size, List.length_replicate]; omega, HB8.out⟩
      case grow =>
        intro hgrow v' W5 hown hgr
        rw [← List.map_append] at hown
        obtain ⟨a6, c6, rfl⟩ := owns_slice hown
        have hne6 : (Value.slice a6 (t.size + q) c6).ownBlock ≠ some w.heap.size := fun e => by have := (hown.lt _ e).1; omega
        have HR5b := Lib.hid (Row.of_owns hown)
        have HB5b := Lib.hid (HB5.out.grown hgr HB5.out.size (fun k e => by cases e))
        have HS5b := Lib.hid (HS5.out.grown hgr (fun k e => by cases e))
        have hyl : ((numsOf t) ++ zs).length ≤ 5000 := by have := HL5.out; rw [List.length_append, numsOf_length]; omega
        clear HR5 HB5 HS5 hcells HO5 HSP5 hown hgr
        go_wp2_with fail
        refine (l1Chance_any _ a n c xs (k + 1 + 1 + q) 40 (by decide) (by decide) (by omega) _ HS5b.out).mono ?_
        rintro e w6 ⟨⟨tt, rfl⟩, hs6, hg6⟩
        have hlt6 := hs6.lt
        have HS6 := Lib.hid hs6
        have HR6 := Lib.hid (HR5b.out.grown hg6 (fun j e => by cases e; exact hne6))
        have HB6 := Lib.hid (below_step HB5b.out hg6 (Nat.le_refl _))
        clear hs6 hg6
        cases tt
        · have hcv2 := conv_row (P := Tryd.prog) w6 Tryd.underlying22 Tryd.underlying5 Tryd.underlying9 HR6.out
          go_wp2
          go_ret
          exact ⟨_, rfl, by rw [strOfNums_size]; exact hyl, HB6.out⟩
        · go_wp2_with fail
          refine (l1Pick_any _ a n c xs ((k + 1 + 1 + q) + 1) w6.heap.size 2 _ rfl (by decide) (by decide) (by omega) _ (HS6.out.alloc _) (lit_row w6 _ .i64 [4000, 4001] 2 rfl (by decide)) (by omega)).mono ?_
          rintro e w7 ⟨z, rfl, hz, hs7, hg7⟩
          have hz2 : ∃ q : Nat, z = (q : Int) ∧ q ≤ 4001 := by
            simp at hz
            exact ⟨z.toNat, by omega, by omega⟩
          obtain ⟨q, rfl, hq⟩ := hz2
          have HB7 := Lib.hid (below_step (HB6.out.alloc HB6.out.size _) hg7 (Nat.le_refl _))
          clear hz hs7 hg7
          go_wp2_with (at_make; refine wpList_make_full _ rfl _ _ 22 rfl w.heap.size 5 i0 (.int .u8 0) 1 u8Und hi hz0 hz1 _ _ _ _ q rfl rfl rfl rfl ?_ ?_ ?_ ?_)
          · rw [hz2]; omega
          · unfold maxLen; omega
          · exact HB7.out.size
          intro w8 hown8 hgrow8
          rw [show (madeCells #[Value.int IntKind.u8 0] q).toList = (List.replicate q (0 : Int)).map (Value.int .u8) by rw [toList_madeCells_one, List.map_replicate]] at hown8
          have hcv2 := conv_row (P := Tryd.prog) w8 Tryd.underlying22 Tryd.underlying5 Tryd.underlying9 (Row.of_owns hown8)
          have HB8 := Lib.hid (HB7.out.grown hgrow8 HB7.out.size (fun k e => by cases e))
          clear hown8 hgrow8
          go_wp2
          go_ret
          exact ⟨_, rfl, by rw [strOfNums_size, List.length_replicate]; omega, HB8.out⟩
  · have hyl : (numsOf t).length ≤ 5000 := by rw [numsOf_length]; omega
    by_cases r1 : r = 1
    · subst r1
      by_cases ht0 : t.size = 0
      · have htz : ¬ (0 < t.size) := by omega
        rw [ht0] at HR3
        go_wp2_with fail
        refine (l1Chance_any _ a n c xs (k + 1) 40 (by decide) (by decide) (by omega) _ HS3.out).mono ?_
        rintro e w6 ⟨⟨tt, rfl⟩, hs6, hg6⟩
        have hlt6 := hs6.lt
        have HS6 := Lib.hid hs6
        have HR6 := Lib.hid (HR3.out.grown hg6 (fun j e => by cases e; exact hgne _ _))
        have HB6 := Lib.hid (below_step HB3.out hg6 (Nat.le_refl _))
        clear hs6 hg6
        cases tt
        · have hcv2 := conv_row (P := Tryd.prog) w6 Tryd.underlying22 Tryd.underlying5 Tryd.underlying9 HR6.out
          go_wp2
          go_ret
          exact ⟨_, rfl, by rw [strOfNums_size]; exact hyl, HB6.out⟩
        · go_wp2_with fail
          refine (l1Pick_any _ a n c xs ((k + 1) + 1) w6.heap.size 2 _ rfl (by decide) (by decide) (by omega) _ (HS6.out.alloc _) (lit_row w6 _ .i64 [4000, 4001] 2 rfl (by decide)) (by omega)).mono ?_
          rintro e w7 ⟨z, rfl, hz, hs7, hg7⟩
          have hz2 : ∃ q : Nat, z = (q : Int) ∧ q ≤ 4001 := by
            simp at hz
            exact ⟨z.toNat, by omega, by omega⟩
          obtain ⟨q, rfl, hq⟩ := hz2
          have HB7 := Lib.hid (below_step (HB6.out.alloc HB6.out.size _) hg7 (Nat.le_refl _))
          clear hz hs7 hg7
          go_wp2_with (at_make; refine wpList_make_full _ rfl _ _ 22 rfl w.heap.size 5 i0 (.int .u8 0) 1 u8Und hi hz0 hz1 _ _ _ _ q rfl rfl rfl rfl ?_ ?_ ?_ ?_)
          · rw [hz2]; omega
          · unfold maxLen; omega
          · exact HB7.out.size
          intro w8 hown8 hgrow8
          rw [show (madeCells #[Value.int IntKind.u8 0] q).toList = (List.replicate q (0 : Int)).map (Value.int .u8) by rw [toList_madeCells_one, List.map_replicate]] at hown8
          have hcv2 := conv_row (P := Tryd.prog) w8 Tryd.underlying22 Tryd.underlying5 Tryd.underlying9 (Row.of_owns hown8)
          have HB8 := Lib.hid (HB7.out.grown hgrow8 HB7.out.size (fun k e => by cases e))
          clear hown8 hgrow8
          go_wp2
          go_ret
          exact ⟨_, rfl, by rw [strOfNums_size, List.length_replicate]; omega, HB8.out⟩
      · have htz : 0 < t.size := by omega
        go_wp2_with fail
        refine (l1Next_any _ a n c xs (k + 1) (t.size : Int) (by omega) (by omega) (by omega) _ HS3.out).mono ?_
        rintro e w4 ⟨q, rfl, hr, hs4, hg4⟩
        have hq := hr (by omega)
        have hlt4 := hs4.lt
        have HS4 := Lib.hid hs4
        have HR4 := Lib.hid (HR3.out.grown hg4 (fun j e => by cases e; exact hgne _ _))
        have HB4 := Lib.hid (below_step HB3.out hg4 (Nat.le_refl _))
        clear hs4 hg4 hr HS3 HR3 HSP3 HB3
        have HR4b := Lib.hid (HR4.out.upto q (by omega))
        have hyl : ((numsOf t).take q).length ≤ 5000 := by rw [List.length_take]; omega
        have hqc : (q : Int) ≤ cap := by omega
        go_wp2_with fail
        refine (l1Chance_any _ a n c xs (k + 1 + 1) 40 (by decide) (by decide) (by omega) _ HS4.out).mono ?_
        rintro e w6 ⟨⟨tt, rfl⟩, hs6, hg6⟩
        have hlt6 := hs6.lt
        have HS6 := Lib.hid hs6
        have HR6 := Lib.hid (HR4b.out.grown hg6 (fun j e => by cases e; exact hgne _ _))
        have HB6 := Lib.hid (below_step HB4.out hg6 (Nat.le_refl _))
        clear hs6 hg6
        cases tt
        · have hcv2 := conv_row (P := Tryd.prog) w6 Tryd.underlying22 Tryd.underlying5 Tryd.underlying9 HR6.out
          go_wp2
          go_ret
          exact ⟨_, rfl, by rw [strOfNums_size]; exact hyl, HB6.out⟩
        · go_wp2_with fail
          refine (l1Pick_any _ a n c xs ((k + 1 + 1) + 1) w6.heap.size 2 _ rfl (by decide) (by decide) (by omega) _ (HS6.out.alloc _) (lit_row w6 _ .i64 [4000, 4001] 2 rfl (by decide)) (by omega)).mono ?_
          rintro e w7 ⟨z, rfl, hz, hs7, hg7⟩
          have hz2 : ∃ q : Nat, z = (q : Int) ∧ q ≤ 4001 := by
            simp at hz
            exact ⟨z.toNat, by omega, by omega⟩
          obtain ⟨q, rfl, hq⟩ := hz2
          have HB7 := Lib.hid (below_step (HB6.out.alloc HB6.out.size _) hg7 (Nat.le_refl _))
          clear hz hs7 hg7
          go_wp2_with (at_make; refine wpList_make_full _ rfl _ _ 22 rfl w.heap.size 5 i0 (.int .u8 0) 1 u8Und hi hz0 hz1 _ _ _ _ q rfl rfl rfl rfl ?_ ?_ ?_ ?_)
          · rw [hz2]; omega
          · unfold maxLen; omega
          · exact HB7.out.size
          intro w8 hown8 hgrow8
          rw [show (madeCells #[Value.int IntKind.u8 0] q).toList = (List.replicate q (0 : Int)).map (Value.int .u8) by rw [toList_madeCells_one, List.map_replicate]] at hown8
          have hcv2 := conv_row (P := Tryd.prog) w8 Tryd.underlying22 Tryd.underlying5 Tryd.underlying9 (Row.of_owns hown8)
          have HB8 := Lib.hid (HB7.out.grown hgrow8 HB7.out.size (fun k e => by cases e))
          clear hown8 hgrow8
          go_wp2
          go_ret
          exact ⟨_, rfl, by rw [strOfNums_size, List.length_replicate]; omega, HB8.out⟩
    · have q0 : ((r : Int) == 0) = false := by rw [beq_eq_false_iff_ne]; omega
      have q1 : ((r : Int) == 1) = false := by rw [beq_eq_false_iff_ne]; omega
      go_wp2_with fail
      refine (l1Chance_any _ a n c xs (k + 1) 40 (by decide) (by decide) (by omega) _ HS3.out).mono ?_
      rintro e w6 ⟨⟨tt, rfl⟩, hs6, hg6⟩
      have hlt6 := hs6.lt
      have HS6 := Lib.hid hs6
      have HR6 := Lib.hid (HR3.out.grown hg6 (fun j e => by cases e; exact hgne _ _))
      have HB6 := Lib.hid (below_step HB3.out hg6 (Nat.le_refl _))
      clear hs6 hg6
      cases tt
      · have hcv2 := conv_row (P := Tryd.prog) w6 Tryd.underlying22 Tryd.underlying5 Tryd.underlying9 HR6.out
        go_wp2
        go_ret
        exact ⟨_, rfl, by rw [strOfNums_size]; exact hyl, HB6.out⟩
      · go_wp2_with fail
        refine (l1Pick_any _ a n c xs ((k + 1) + 1) w6.heap.size 2 _ rfl (by decide) (by decide) (by omega) _ (HS6.out.alloc _) (lit_row w6 _ .i64 [4000, 4001] 2 rfl (by decide)) (by omega)).mono ?_
        rintro e w7 ⟨z, rfl, hz, hs7, hg7⟩
        have hz2 : ∃ q : Nat, z = (q : Int) ∧ q ≤ 4001 := by
          simp at hz
          exact ⟨z.toNat, by omega, by omega⟩
        obtain ⟨q, rfl, hq⟩ := hz2
        have HB7 := Lib.hid (below_step (HB6.out.alloc HB6.out.size _) hg7 (Nat.le_refl _))
        clear hz hs7 hg7
        go_wp2_with (at_make; refine wpList_make_full _ rfl _ _ 22 rfl w.heap.size 5 i0 (.int .u8 0) 1 u8Und hi hz0 hz1 _ _ _ _ q rfl rfl rfl rfl ?_ ?_ ?_ ?_)
        · rw [hz2]; omega
        · unfold maxLen; omega
        · exact HB7.out.size
        intro w8 hown8 hgrow8
        rw [show (madeCells #[Value.int IntKind.u8 0] q).toList = (List.replicate q (0 : Int)).map (Value.int .u8) by rw [toList_madeCells_one, List.map_replicate]] at hown8
        have hcv2 := conv_row (P := Tryd.prog) w8 Tryd.underlying22 Tryd.underlying5 Tryd.underlying9 (Row.of_owns hown8)
        have HB8 := Lib.hid (HB7.out.grown hgrow8 HB7.out.size (fun k e => by cases e))
        clear hown8 hgrow8
        go_wp2
        go_ret
        exact ⟨_, rfl, by rw [strOfNums_size, List.length_replicate]; omega, HB8.out⟩
end Go.Proofs.YtmgemchpclmknaaDoor
