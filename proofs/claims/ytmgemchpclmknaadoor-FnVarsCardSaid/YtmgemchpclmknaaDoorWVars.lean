/- The walk of the law on numbers and strings. -/
import Derived.Test.YtmgemchpclmknaaDoorDraw5
import Derived.Test.YtmgemchpclmknaaDoorVarFacts
import Derived.Test.YtmgemchpclmknaaDoorLw
import Derived.Deep.RegionHeld3
import Derived.Deep.DeepCutAuto
import Derived.Deep.AppendLies
import Derived.Laws.StructEq
namespace Go.Proofs.YtmgemchpclmknaaDoor
open Go.ChangeShapes Go.WideShapes Go.ChangeAt Go.RowKit
set_option linter.unusedVariables false

theorem neqRead (x y z : Int) (w : World) : (binOp .neq 40 (.agg #[.int .i64 x, .int .i64 y, .int .i64 z]) (.agg #[.int .i64 x, .int .i64 y, .int .i64 z])).run Tryd.prog w = .ok (.bool false) w := by
  have u3 := Tryd.underlying2
  have hS : Tryd.prog.underlying 40 = some (.struct (Tryd.prog.fieldsOf 40)) := by kernel_rfl
  rw [run_neq_struct, show (10000 : Nat) = 9999 + 1 from rfl, run_equalIn_agg w 9999 _ _ _ hS (by kernel_rfl)]
  simp only [Program.fieldsOf, Tryd.underlying40]
  go_simp
theorem neqString (x z : Int) (s : ByteArray) (w : World) : (binOp .neq 44 (.agg #[.int .i64 x, .string s, .int .i64 z]) (.agg #[.int .i64 x, .string s, .int .i64 z])).run Tryd.prog w = .ok (.bool false) w := by
  have u3 := Tryd.underlying2
  have u4 := Tryd.underlying9
  have hS : Tryd.prog.underlying 44 = some (.struct (Tryd.prog.fieldsOf 44)) := by kernel_rfl
  rw [run_neq_struct, show (10000 : Nat) = 9999 + 1 from rfl, run_equalIn_agg w 9999 _ _ _ hS (by kernel_rfl)]
  simp only [Program.fieldsOf, Tryd.underlying44]
  go_simp

/-- the cells of the four answers -/
def Kept (w0 W : World) (b4 b6 b8 b10 : Nat) (x40 x41 x60 x61 x62 x80 x81 x100 x101 x102 : Value) : Prop :=
  Below w0.heap.size w0 W ∧ W.cell? ⟨b4, 0, none⟩ = some x40 ∧ W.cell? ⟨b4, 1, none⟩ = some x41 ∧ W.cell? ⟨b6, 0, none⟩ = some x60 ∧ W.cell? ⟨b6, 1, none⟩ = some x61 ∧ W.cell? ⟨b6, 2, none⟩ = some x62 ∧
    W.cell? ⟨b8, 0, none⟩ = some x80 ∧ W.cell? ⟨b8, 1, none⟩ = some x81 ∧ W.cell? ⟨b10, 0, none⟩ = some x100 ∧ W.cell? ⟨b10, 1, none⟩ = some x101 ∧ W.cell? ⟨b10, 2, none⟩ = some x102
theorem held_all {w0 W W' : World} {b4 b6 b8 b10 : Nat} {x40 x41 x60 x61 x62 x80 x81 x100 x101 x102 : Value} (hb : Below W.heap.size W W')
    (h : Below w0.heap.size w0 W ∧ W.cell? ⟨b4, 0, none⟩ = some x40 ∧ W.cell? ⟨b4, 1, none⟩ = some x41 ∧ W.cell? ⟨b6, 0, none⟩ = some x60 ∧ W.cell? ⟨b6, 1, none⟩ = some x61 ∧ W.cell? ⟨b6, 2, none⟩ = some x62 ∧
      W.cell? ⟨b8, 0, none⟩ = some x80 ∧ W.cell? ⟨b8, 1, none⟩ = some x81 ∧ W.cell? ⟨b10, 0, none⟩ = some x100 ∧ W.cell? ⟨b10, 1, none⟩ = some x101 ∧ W.cell? ⟨b10, 2, none⟩ = some x102) :
    Below w0.heap.size w0 W' ∧ W'.cell? ⟨b4, 0, none⟩ = some x40 ∧ W'.cell? ⟨b4, 1, none⟩ = some x41 ∧ W'.cell? ⟨b6, 0, none⟩ = some x60 ∧ W'.cell? ⟨b6, 1, none⟩ = some x61 ∧ W'.cell? ⟨b6, 2, none⟩ = some x62 ∧
      W'.cell? ⟨b8, 0, none⟩ = some x80 ∧ W'.cell? ⟨b8, 1, none⟩ = some x81 ∧ W'.cell? ⟨b10, 0, none⟩ = some x100 ∧ W'.cell? ⟨b10, 1, none⟩ = some x101 ∧ W'.cell? ⟨b10, 2, none⟩ = some x102 := by
  obtain ⟨h0, h1, h2, h3, h4, h5, h6, h7, h8, h9, h10⟩ := h
  have g : ∀ {a : Addr} {v : Value}, W.cell? a = some v → W'.cell? a = some v := fun {a v} e => (hb.cell (cell_some_lt e)).trans e
  exact ⟨below_then h0 hb, g h1, g h2, g h3, g h4, g h5, g h6, g h7, g h8, g h9, g h10⟩
theorem held_sent {w0 W : World} {R : Prop} {sa : Addr} (hs : Sent w0 sa) (h : Below w0.heap.size w0 W ∧ R) : Sent W sa := hs.kept h.1
theorem held_tabs2 {w0 W : World} {R : Prop} (ht : Tabs w0) (h : Below w0.heap.size w0 W ∧ R) : Tabs W := tabs_kept ht h.1
theorem held_own {w0 W : World} {R : Prop} {e : TypeId} {B : Nat} {k : IntKind} {v : Value} {n : Nat} {xs : List Int} (ho : w0.ownsRow B e 1 v n (xs.map (Value.int k))) (h : Below w0.heap.size w0 W ∧ R) : Row W k v xs :=
  Row.of_owns (owns_below ho h.1)
theorem held_rd {w0 W : World} {R : Prop} {k : IntKind} {v : Value} {xs : List Int} (ho : Row w0 k v xs) (h : Below w0.heap.size w0 W ∧ R) : Row W k v xs := ho.below h.1

theorem held_grown {w0 W W' : World} {row : Option Nat} {B : Nat} {b4 b6 b8 b10 : Nat} {x40 x41 x60 x61 x62 x80 x81 x100 x101 x102 : Value} (hg : W.grownBy W' row) (hr : ∀ k, row = some k → B ≤ k) (hB : w0.heap.size ≤ B) (hbs : b4 < B ∧ b6 < B ∧ b8 < B ∧ b10 < B)
    (h : Below w0.heap.size w0 W ∧ W.cell? ⟨b4, 0, none⟩ = some x40 ∧ W.cell? ⟨b4, 1, none⟩ = some x41 ∧ W.cell? ⟨b6, 0, none⟩ = some x60 ∧ W.cell? ⟨b6, 1, none⟩ = some x61 ∧ W.cell? ⟨b6, 2, none⟩ = some x62 ∧
      W.cell? ⟨b8, 0, none⟩ = some x80 ∧ W.cell? ⟨b8, 1, none⟩ = some x81 ∧ W.cell? ⟨b10, 0, none⟩ = some x100 ∧ W.cell? ⟨b10, 1, none⟩ = some x101 ∧ W.cell? ⟨b10, 2, none⟩ = some x102) :
    Below w0.heap.size w0 W' ∧ W'.cell? ⟨b4, 0, none⟩ = some x40 ∧ W'.cell? ⟨b4, 1, none⟩ = some x41 ∧ W'.cell? ⟨b6, 0, none⟩ = some x60 ∧ W'.cell? ⟨b6, 1, none⟩ = some x61 ∧ W'.cell? ⟨b6, 2, none⟩ = some x62 ∧
      W'.cell? ⟨b8, 0, none⟩ = some x80 ∧ W'.cell? ⟨b8, 1, none⟩ = some x81 ∧ W'.cell? ⟨b10, 0, none⟩ = some x100 ∧ W'.cell? ⟨b10, 1, none⟩ = some x101 ∧ W'.cell? ⟨b10, 2, none⟩ = some x102 := by
  obtain ⟨h0, h1, h2, h3, h4, h5, h6, h7, h8, h9, h10⟩ := h
  obtain ⟨l4, l6, l8, l10⟩ := hbs
  have g : ∀ {b o : Nat} {v : Value}, b < B → W.cell? ⟨b, o, none⟩ = some v → W'.cell? ⟨b, o, none⟩ = some v := fun {b o v} hb e => hg.cell e (fun he => by have := hr b he.symm; omega)
  exact ⟨h0.grown hg h0.size (fun k hk => Nat.le_trans hB (hr k hk)), g l4 h1, g l4 h2, g l6 h3, g l6 h4, g l6 h5, g l8 h6, g l8 h7, g l10 h8, g l10 h9, g l10 h10⟩
theorem fldB1' (w : World) (cd : Int) (a : Option Addr) (n c : Nat) : (Instr.field 26 (.agg #[.int .i64 cd, .slice a n c]) 1).run Tryd.prog w = .ok (.slice a n c) w := by kernel_rfl
theorem drew_below {w w' : World} (h : ∃ n, w' = w.drewN n) : Below w.heap.size w w' := by
  obtain ⟨n, rfl⟩ := h
  exact below_drewN (Below.refl _ _) n
theorem held_below {w0 W : World} {R : Prop} (h : Below w0.heap.size w0 W ∧ R) : Below w0.heap.size w0 W := h.1
theorem row_cap {W : World} {g m c : Nat} {ys : List Int} (h : Row W .u8 (.slice (some ⟨g, 0, none⟩) m c) ys) : m ≤ c ∧ c ≤ maxLen := by
  rcases h with ⟨hv, _⟩ | ⟨b, o, cap, hv, h1, h2, h3, h4⟩
  · cases hv
  · simp only [Value.slice.injEq, Option.some.injEq, Addr.mk.injEq, and_true] at hv
    obtain ⟨⟨rfl, rfl⟩, rfl, rfl⟩ := hv
    exact ⟨h1, h2⟩
theorem row_cells' {W : World} {g m c : Nat} {ys : List Int} (h : Row W .u8 (.slice (some ⟨g, 0, none⟩) m c) ys) : m = ys.length ∧ ∀ j u, (ys.map (Value.int .u8))[j]? = some u → W.cell? ((⟨g, 0, none⟩ : Addr).add j) = some u := by
  rcases h with ⟨hv, _⟩ | ⟨b, o, cap, hv, h1, h2, h3, h4⟩
  · cases hv
  · simp only [Value.slice.injEq, Option.some.injEq, Addr.mk.injEq, and_true] at hv
    obtain ⟨⟨rfl, rfl⟩, rfl, rfl⟩ := hv
    refine ⟨rfl, fun j u hj => ?_⟩
    obtain ⟨hj1, hj2⟩ := List.getElem?_eq_some_iff.1 hj
    have hjl : j < ys.length := by simpa using hj1
    have := h4 j hjl
    rw [Addr.add_lit, this, ← hj2, List.getElem_map, List.getD_eq_getElem?_getD, List.getElem?_eq_getElem hjl]
    rfl
/-- an append to a row of the call's own, in a region that draws its order, guarded or not -/
theorem step_app {P : Program} {ops : Array Oper} {o : Oper} {a : Act} {w : World} {K : Act → World → Prop} {Q : Exit → Act → World → Prop} {E : Prop} (hw : Region.wanted o (yielded ops a.tmps) = true) (s x : Operand) (t : TypeId)
    (ho : o.op = .call { callee := .builtin .append, args := #[s, x], argTypes := #[t, t] })
    (e : TypeId) (i : TypeInfo) (ht : P.underlying t = some (.slice e)) (hi : P.info? e = some i) (hz : i.zero = some (.int .u8 0)) (hsize : i.size = 1) (hby : i.bytes = 1)
    (base g0 n c : Nat) (xs : List Int) (hs : a.eval s = .slice (some ⟨g0, 0, none⟩) n c) (hown : w.ownsRow base e 1 (.slice (some ⟨g0, 0, none⟩) n c) n (xs.map (Value.int .u8)))
    (g m c5 : Nat) (ys : List Int) (hx : a.eval x = .slice (some ⟨g, 0, none⟩) m c5) (hrow : Row w .u8 (.slice (some ⟨g, 0, none⟩) m c5) ys) (hsz : n + m ≤ 100000) (hbase : base ≤ w.heap.size) (N : Nat) (hN : N = n + m)
    (h : ∀ g' cap w', w'.ownsRow base e 1 (.slice (some ⟨g', 0, none⟩) N cap) N ((xs ++ ys).map (Value.int .u8)) → w.grownBy w' (some g0) → base ≤ g0 → K (a.put o.dst (.slice (some ⟨g', 0, none⟩) N cap)) w') :
    if Region.wanted o (yielded ops a.tmps) = true then Oper.wp P o a w K Q else E := by
  rw [if_pos hw]
  obtain ⟨hm, hcells⟩ := row_cells' hrow
  subst hN
  refine wp_append_own w s x t ho base e i _ 1 1 ht hi hz hsize hby rfl (by decide) _ n _ hs hown ⟨g, 0, none⟩ m c5 (ys.map (Value.int .u8)) hx (by rw [List.length_map]; omega) hcells (ints_oneCell _ _) (by unfold maxLen; omega) (by omega) hbase ?_
  intro v' w' hown' hgrow hnil
  have hg0 := (hown.lt g0 rfl).1
  rcases hown'.2 with ⟨hv, h0⟩ | ⟨g', cap, cur, hv, _⟩
  · have := (hnil.1 (by rw [hv])).1
    cases this
  · subst hv
    rw [← List.map_append] at hown'
    exact h g' cap w' hown' hgrow hg0

set_option maxRecDepth 100000 in
set_option maxHeartbeats 6400000 in
theorem fnVars_walk0 (a : Option Addr) (n c : Nat) (xs : List Int) (w : World) (hC : CodeAt w a n c xs) (hT : Tabs w) (sa : Addr) (hs : Sent w sa) :
    Calls Tryd.prog 4 #[.slice a n c] w fun e w' => e = .returned (.bool true) ∧ Below w.heap.size w w' := by
  have hn := hC.size
  have hbig : decide (1048576 < n) = false := by simp; omega
  have HC := Lib.hid hC
  have HT := Lib.hid hT
  have HS := Lib.hid hs
  clear hC hT hs
  go_enter Tryd.func4, Tryd.ntmps4
  go_wp2_with fail
  refine (lwBig_any a n c (by omega) _).mono ?_
  rintro e w1 ⟨rfl, rfl⟩
  rw [hbig]
  go_wp2_with fail
  refine (drawPutVar_any a n c xs _ HC.out).mono ?_
  rintro e w2 ⟨p, rfl, hp9, hb⟩
  have HP := Lib.hid hp9
  have HB2 := Lib.hid hb
  clear hb hp9
  go_wp2_with fail
  refine (implPutVar_any p HP.out _).mono ?_
  generalize hpc : pvCode p = pc
  generalize hpl : pvList p = pl
  have HPC := Lib.hid hpc
  have HPL := Lib.hid hpl
  clear hpc hpl
  rintro e w3 ⟨a1, n1, c1, rfl, ho, hb⟩
  have HB3 := Lib.hid (below_then HB2.out hb)
  have HV3 := Lib.hid (Var2.new w3 26 pc (.slice a1 n1 c1))
  have HO3 := Lib.hid (owns_mono ho (HB2.out.size))
  clear hb ho HB2
  go_wp2_with fail
  refine (drawReadVar_any a n c xs _ (HC.out.below (HB3.out.alloc HB3.out.size _))).mono ?_
  rintro e w4 ⟨gd, nd, cd, D, rfl, hrd, hnd, hnm, hdb, hb⟩
  have HB4 := Lib.hid (below_then (HB3.out.alloc HB3.out.size _) hb)
  have HV4 := Lib.hid (HV3.out.below hb)
  have HO4 := Lib.hid (owns_below (owns_below HO3.out (below1 w3 _)) hb)
  have HRD4 := Lib.hid hrd
  have HND := Lib.hid hnd
  have HDB := Lib.hid hdb
  have HDG := Lib.hid (getD_of_mem hdb)
  clear hb hrd hnd hdb HB3 HV3 HO3
  go_wp2_with fail
  refine (implReadVar_any _ nd cd D _ sa (HS.out.kept HB4.out) HND.out HRD4.out HDG.out).mono ?_
  generalize hr0 : vcode D = rc
  generalize hr1 : vreadN D = rv
  generalize hr2 : vreadK D = rk
  have HR0 := Lib.hid hr0
  have HR1 := Lib.hid hr1
  have HR2 := Lib.hid hr2
  clear hr0 hr1 hr2
  rintro e w5 ⟨rfl, hb⟩
  have HB5 := Lib.hid (below_then HB4.out hb)
  have HV5 := Lib.hid (HV4.out.below hb)
  have HO5 := Lib.hid (owns_below HO4.out hb)
  have HRD5 := Lib.hid (HRD4.out.below hb)
  have HU5 := Lib.hid (Var3.new w5 40 (.int .i64 rc) (.int .i64 rv) (.int .i64 rk))
  clear hb HB4 HV4 HO4 HRD4
  go_wp2_with fail
  refine (drawPutString_any a n c xs _ (HC.out.below (HB5.out.alloc HB5.out.size _))).mono ?_
  rintro e w6 ⟨t, rfl, ht, hb⟩
  have HB6 := Lib.hid (below_then (HB5.out.alloc HB5.out.size _) hb)
  have HV6 := Lib.hid ((HV5.out.alloc _).below hb)
  have HO6 := Lib.hid (owns_below (owns_below HO5.out (below1 w5 _)) hb)
  have HRD6 := Lib.hid ((HRD5.out.below (below1 w5 _)).below hb)
  have HU6 := Lib.hid (HU5.out.below hb)
  clear hb HB5 HV5 HO5 HRD5 HU5
  go_wp2_with fail
  refine (implPutString_any t (by unfold maxLen; omega) _ (tabs_kept HT.out HB6.out)).mono ?_
  generalize hf0 : textFault t.data.toList = tf
  generalize hf1 : psList t.data.toList = tl
  have HF0 := Lib.hid hf0
  have HF1 := Lib.hid hf1
  clear hf0 hf1
  rintro e w7 ⟨a2, n2, c2, rfl, ho, hb⟩
  have HB7 := Lib.hid (below_then HB6.out hb)
  have HV7 := Lib.hid (HV6.out.below hb)
  have HO7 := Lib.hid (owns_below HO6.out hb)
  have HRD7 := Lib.hid (HRD6.out.below hb)
  have HU7 := Lib.hid (HU6.out.below hb)
  have HX7 := Lib.hid (Var2.new w7 26 tf (.slice a2 n2 c2))
  have HQ7 := Lib.hid (owns_mono ho (HB6.out.size))
  clear hb ho HB6 HV6 HO6 HRD6 HU6
  go_wp2_with fail
  refine (drawReadString_any a n c xs _ (HC.out.below (HB7.out.alloc HB7.out.size _))).mono ?_
  rintro e w8 ⟨gm, nm, cm, M, rfl, hrm, hnmM, hnmm, hmb, hb⟩
  have HB8 := Lib.hid (below_then (HB7.out.alloc HB7.out.size _) hb)
  have HV8 := Lib.hid ((HV7.out.alloc _).below hb)
  have HO8 := Lib.hid (owns_below (owns_below HO7.out (below1 w7 _)) hb)
  have HRD8 := Lib.hid ((HRD7.out.below (below1 w7 _)).below hb)
  have HU8 := Lib.hid ((HU7.out.alloc _).below hb)
  have HX8 := Lib.hid (HX7.out.below hb)
  have HQ8 := Lib.hid (owns_below (owns_below HQ7.out (below1 w7 _)) hb)
  have HRM8 := Lib.hid hrm
  have HNM := Lib.hid hnmM
  have HMB := Lib.hid hmb
  have HMG := Lib.hid (getD_of_mem hmb)
  clear hb hrm hnmM hmb HB7 HV7 HO7 HRD7 HU7 HX7 HQ7
  go_wp2_with fail
  refine (implReadString_any _ nm cm M _ sa (HS.out.kept HB8.out) (tabs_kept HT.out HB8.out) HNM.out HRM8.out HMG.out).mono ?_
  generalize hs0 : scode M = uc
  generalize hs1 : stxt M = ut
  generalize hs2 : ssz M = uk
  have HS0 := Lib.hid hs0
  have HS1 := Lib.hid hs1
  have HS2 := Lib.hid hs2
  clear hs0 hs1 hs2
  rintro e w9 ⟨rfl, hb⟩
  have HB9 := Lib.hid ((below_then HB8.out hb).alloc (below_then HB8.out hb).size (.cells #[.int .i64 uc, .string ut, .int .i64 uk] 44))
  have HV9 := Lib.hid ((HV8.out.below hb).alloc (.cells #[.int .i64 uc, .string ut, .int .i64 uk] 44))
  have HO9 := Lib.hid (owns_below (owns_below HO8.out hb) (below1 w9 (.cells #[.int .i64 uc, .string ut, .int .i64 uk] 44)))
  have HRD9 := Lib.hid ((HRD8.out.below hb).below (below1 w9 (.cells #[.int .i64 uc, .string ut, .int .i64 uk] 44)))
  have HU9 := Lib.hid ((HU8.out.below hb).alloc (.cells #[.int .i64 uc, .string ut, .int .i64 uk] 44))
  have HX9 := Lib.hid ((HX8.out.below hb).alloc (.cells #[.int .i64 uc, .string ut, .int .i64 uk] 44))
  have HQ9 := Lib.hid (owns_below (owns_below HQ8.out hb) (below1 w9 (.cells #[.int .i64 uc, .string ut, .int .i64 uk] 44)))
  have HRM9 := Lib.hid ((HRM8.out.below hb).below (below1 w9 (.cells #[.int .i64 uc, .string ut, .int .i64 uk] 44)))
  have HY9 := Lib.hid (Var3.new w9 44 (.int .i64 uc) (.string ut) (.int .i64 uk))
  clear hb HB8 HV8 HO8 HRD8 HU8 HX8 HQ8 HRM8
  go_wp2_with fail
  generalize w9.alloc (.cells #[.int .i64 uc, .string ut, .int .i64 uk] 44) = w10 at *
  have HT10 := Lib.hid (tabs_kept HT.out HB9.out)
  have HS10 := Lib.hid (HS.out.kept HB9.out)
  clear HT HS HC
  generalize w3.heap.size = b4 at *
  generalize w5.heap.size = b6 at *
  generalize w7.heap.size = b8 at *
  generalize w9.heap.size = b10 at *
  have hS0 : Below w10.heap.size w10 w10.drew ∧ w10.drew.cell? ⟨b4, 0, none⟩ = some (.int .i64 pc) ∧ w10.drew.cell? ⟨b4, 1, none⟩ = some (.slice a1 n1 c1) ∧ w10.drew.cell? ⟨b6, 0, none⟩ = some (.int .i64 rc) ∧ w10.drew.cell? ⟨b6, 1, none⟩ = some (.int .i64 rv) ∧ w10.drew.cell? ⟨b6, 2, none⟩ = some (.int .i64 (rk : Int)) ∧ w10.drew.cell? ⟨b8, 0, none⟩ = some (.int .i64 tf) ∧ w10.drew.cell? ⟨b8, 1, none⟩ = some (.slice a2 n2 c2) ∧ w10.drew.cell? ⟨b10, 0, none⟩ = some (.int .i64 uc) ∧ w10.drew.cell? ⟨b10, 1, none⟩ = some (.string ut) ∧ w10.drew.cell? ⟨b10, 2, none⟩ = some (.int .i64 uk) :=
    held_all ((Below.refl _ _).drew) ⟨Below.refl _ _, HV9.out.c0, HV9.out.c1, HU9.out.c0, HU9.out.c1, HU9.out.c2, HX9.out.c0, HX9.out.c1, HY9.out.c0, HY9.out.c1, HY9.out.c2⟩
  go_cut [52] (fun v wx => v = .bool false ∧ Below w10.heap.size w10 wx ∧ wx.cell? ⟨b4, 0, none⟩ = some (.int .i64 pc) ∧ wx.cell? ⟨b4, 1, none⟩ = some (.slice a1 n1 c1) ∧ wx.cell? ⟨b6, 0, none⟩ = some (.int .i64 rc) ∧ wx.cell? ⟨b6, 1, none⟩ = some (.int .i64 rv) ∧ wx.cell? ⟨b6, 2, none⟩ = some (.int .i64 (rk : Int)) ∧ wx.cell? ⟨b8, 0, none⟩ = some (.int .i64 tf) ∧ wx.cell? ⟨b8, 1, none⟩ = some (.slice a2 n2 c2) ∧ wx.cell? ⟨b10, 0, none⟩ = some (.int .i64 uc) ∧ wx.cell? ⟨b10, 1, none⟩ = some (.string ut) ∧ wx.cell? ⟨b10, 2, none⟩ = some (.int .i64 uk))
  case first =>
    have hfr := neqRead
    have hfs := neqString
    have q0 := HV9.out.c0
    have q1 := HV9.out.c1
    have q2 := HU9.out.c0
    have q3 := HU9.out.c1
    have q4 := HU9.out.c2
    have q5 := HX9.out.c0
    have q6 := HX9.out.c1
    have q7 := HY9.out.c0
    have q8 := HY9.out.c1
    have q9 := HY9.out.c2
    have hm1 : t.size ≤ 1048576 := by omega
    have K1 := Lib.hid (fun W => specPutVar_any p HP.out W)
    have K2 := Lib.hid (fun W (h : Row W .u8 (.slice (some ⟨gd, 0, none⟩) nd cd) D) => specReadVar_any _ nd cd D W HND.out h HDG.out)
    have K3 := Lib.hid (fun W => specPutString_any t hm1 W)
    have K4 := Lib.hid (fun W (h : Row W .u8 (.slice (some ⟨gm, 0, none⟩) nm cm) M) => specReadString_any _ nm cm M W HNM.out h HMG.out)
    rw [HPC.out, HPL.out] at K1
    rw [HR0.out, HR1.out, HR2.out] at K2
    rw [HF0.out, HF1.out] at K3
    rw [HS0.out, HS1.out, HS2.out] at K4
    go_region_held3 (fun W => Below w10.heap.size w10 W ∧ W.cell? ⟨b4, 0, none⟩ = some (.int .i64 pc) ∧ W.cell? ⟨b4, 1, none⟩ = some (.slice a1 n1 c1) ∧ W.cell? ⟨b6, 0, none⟩ = some (.int .i64 rc) ∧ W.cell? ⟨b6, 1, none⟩ = some (.int .i64 rv) ∧ W.cell? ⟨b6, 2, none⟩ = some (.int .i64 (rk : Int)) ∧ W.cell? ⟨b8, 0, none⟩ = some (.int .i64 tf) ∧ W.cell? ⟨b8, 1, none⟩ = some (.slice a2 n2 c2) ∧ W.cell? ⟨b10, 0, none⟩ = some (.int .i64 uc) ∧ W.cell? ⟨b10, 1, none⟩ = some (.string ut) ∧ W.cell? ⟨b10, 2, none⟩ = some (.int .i64 uk))
      (first | assumption | exact held_all hbr (by assumption))
      (first
        | (go_at_call 36; refine (K1.out _).mono ?_; rintro e w' ⟨ar, nr, cr, rfl, hor, hbr⟩)
        | (go_at_call 18; ((with_reducible refine (lwBytes_true pc a1 _ n1 _ c1 _ pl _ ?_ ?_).mono ?_)); exact held_own HO9.out (by assumption); exact Row.of_owns (by assumption); rintro e w' ⟨rfl, hbr⟩)
        | (go_at_call 18; ((with_reducible refine (lwBytes_true tf a2 _ n2 _ c2 _ tl _ ?_ ?_).mono ?_)); exact held_own HQ9.out (by assumption); exact Row.of_owns (by assumption); rintro e w' ⟨rfl, hbr⟩)
        | (go_at_call 37; refine (K2.out _ ?_).mono ?_; exact held_rd HRD9.out (by assumption); rintro e w' ⟨rfl, hbr⟩)
        | (go_at_call 38; refine (K3.out _).mono ?_; rintro e w' ⟨ar, nr, cr, rfl, hor, hbr⟩)
        | (go_at_call 39; refine (K4.out _ ?_).mono ?_; exact held_rd HRM9.out (by assumption); rintro e w' ⟨rfl, hbr⟩))
    all_goals (go_wp2_with fail; go_meet; refine ⟨by simp, ?_⟩; first | assumption | exact held_all hbr (by assumption))
  case rest =>
    obtain ⟨rfl, hS⟩ := hcut
    have HSC := Lib.hid hS
    clear hS0 hS HV9 HU9 HX9 HY9
    go_upto_region 13 with fail
    go_cut [70] (fun v wx => v = .bool false ∧ Below w10.heap.size w10 wx ∧ wx.cell? ⟨b4, 0, none⟩ = some (.int .i64 pc) ∧ wx.cell? ⟨b4, 1, none⟩ = some (.slice a1 n1 c1) ∧ wx.cell? ⟨b6, 0, none⟩ = some (.int .i64 rc) ∧ wx.cell? ⟨b6, 1, none⟩ = some (.int .i64 rv) ∧ wx.cell? ⟨b6, 2, none⟩ = some (.int .i64 (rk : Int)) ∧ wx.cell? ⟨b8, 0, none⟩ = some (.int .i64 tf) ∧ wx.cell? ⟨b8, 1, none⟩ = some (.slice a2 n2 c2) ∧ wx.cell? ⟨b10, 0, none⟩ = some (.int .i64 uc) ∧ wx.cell? ⟨b10, 1, none⟩ = some (.string ut) ∧ wx.cell? ⟨b10, 2, none⟩ = some (.int .i64 uk))
    case first =>
      obtain ⟨hB, q0, q1, q2, q3, q4, q5, q6, q7, q8, q9⟩ := HSC.out
      have hfr := neqRead
      have hp9 := HP.out
      by_cases hp : p < 0
      · have e1 : pc = 3 := by rw [← HPC.out]; unfold pvCode; rw [if_pos hp]
        subst e1
        clear hB
        go_quiet (fail)
        go_wp2_with fail
        go_meet
        exact ⟨rfl, held_all (below_drewN (Below.refl _ _) _) HSC.out⟩
      · have e1 : pc = 0 := by rw [← HPC.out]; unfold pvCode; rw [if_neg hp]
        subst e1
        obtain ⟨N, rfl⟩ : ∃ N : Nat, p = N := ⟨p.toNat, by omega⟩
        have hpl : pl = vput N := by rw [← HPL.out]; unfold pvList; rw [if_neg hp, Int.toNat_natCast]
        have hNN : N ≤ 9223372036854775807 := by omega
        have hn1 := owns_length HO9.out
        have hl9 := vput_len9 N hNN
        have hl0 := vput_pos N
        rw [← hpl] at hl9 hl0
        obtain ⟨r1, r2, r3⟩ := vread_app N D hNN
        rw [← hpl] at r1 r2 r3
        have hvc : vcode (pl ++ D) = 0 := by unfold vcode; rw [r1]; rfl
        have hplb : ∀ y ∈ pl, 0 ≤ y ∧ y ≤ 255 := by rw [hpl]; exact vput_bytes N N (Nat.le_refl _)
        have K5 := Lib.hid (fun (W : World) (g m cap : Nat) (hs : Sent W sa) (hm : m = (pl ++ D).length) (hr : Row W .u8 (.slice (some ⟨g, 0, none⟩) m cap) (pl ++ D)) => implReadVar_any _ m cap (pl ++ D) W sa hs hm hr (getD_of_mem (mem_app hplb HDB.out)))
        rw [hvc, r2, r3, ← hn1] at K5
        obtain ⟨gp, rfl⟩ : ∃ g, a1 = some ⟨g, 0, none⟩ := by
          rcases HO9.out.2 with ⟨hv, h0⟩ | ⟨g, cap, cur, hv, _⟩
          · omega
          · simp only [Value.slice.injEq] at hv
            exact ⟨g, hv.1⟩
        have hn1m : n1 ≤ 9 := by omega
        have HLL : Hid (n1 + nd = (pl ++ D).length) := Lib.hid (by have := HND.out; simp; omega)
        have HSB : Hid (w10.heap.size ≤ wc.heap.size ∧ (b4 < wc.heap.size ∧ b6 < wc.heap.size ∧ b8 < wc.heap.size ∧ b10 < wc.heap.size)) := Lib.hid ⟨hB.size, cell_some_lt q0, cell_some_lt q2, cell_some_lt q5, cell_some_lt q7⟩
        obtain ⟨i0, hi, hz0, hz1, hz2⟩ := info_parts varInfo
        have hSd : Below w10.heap.size w10 wc.drew ∧ wc.drew.cell? ⟨b4, 0, none⟩ = some (.int .i64 0) ∧ wc.drew.cell? ⟨b4, 1, none⟩ = some (.slice (some ⟨gp, 0, none⟩) n1 c1) ∧ wc.drew.cell? ⟨b6, 0, none⟩ = some (.int .i64 rc) ∧ wc.drew.cell? ⟨b6, 1, none⟩ = some (.int .i64 rv) ∧ wc.drew.cell? ⟨b6, 2, none⟩ = some (.int .i64 (rk : Int)) ∧ wc.drew.cell? ⟨b8, 0, none⟩ = some (.int .i64 tf) ∧ wc.drew.cell? ⟨b8, 1, none⟩ = some (.slice a2 n2 c2) ∧ wc.drew.cell? ⟨b10, 0, none⟩ = some (.int .i64 uc) ∧ wc.drew.cell? ⟨b10, 1, none⟩ = some (.string ut) ∧ wc.drew.cell? ⟨b10, 2, none⟩ = some (.int .i64 uk) := held_all ((Below.refl _ _).drew) HSC.out
        clear hpl hn1 hl9 hl0 r1 r2 r3 hvc hplb hp hB
        go_region_held3 (fun W => Below w10.heap.size w10 W ∧ W.cell? ⟨b4, 0, none⟩ = some (.int .i64 0) ∧ W.cell? ⟨b4, 1, none⟩ = some (.slice (some ⟨gp, 0, none⟩) n1 c1) ∧ W.cell? ⟨b6, 0, none⟩ = some (.int .i64 rc) ∧ W.cell? ⟨b6, 1, none⟩ = some (.int .i64 rv) ∧ W.cell? ⟨b6, 2, none⟩ = some (.int .i64 (rk : Int)) ∧ W.cell? ⟨b8, 0, none⟩ = some (.int .i64 tf) ∧ W.cell? ⟨b8, 1, none⟩ = some (.slice a2 n2 c2) ∧ W.cell? ⟨b10, 0, none⟩ = some (.int .i64 uc) ∧ W.cell? ⟨b10, 1, none⟩ = some (.string ut) ∧ W.cell? ⟨b10, 2, none⟩ = some (.int .i64 uk))
          (first | assumption | exact held_all hbr (by assumption) | exact held_all ((below1 _ _).trans ((Below.refl _ _).drew)) (by assumption) | exact held_all (below1 _ _) (by assumption) | exact held_grown hgr (fun k e => by cases e; exact hgb) HSB.out.1 HSB.out.2 (by assumption))
          (first
            | (refine step_app (by rfl) _ _ 22 rfl 5 i0 Tryd.underlying22 hi hz0 hz1 hz2 wc.heap.size wc.heap.size 0 0 [] (by rfl) (lit_owns wc 5 .u8 [] 0 rfl (by decide)) gp n1 c1 pl (by rfl) ?_ (by omega) ?_ n1 (by omega) ?_; exact held_own HO9.out (by assumption); exact (Nat.le_of_lt (by simp)); intro g1 cap1 W1 hown1 hgr hgb)
            | (refine step_app (by rfl) _ _ 22 rfl 5 i0 Tryd.underlying22 hi hz0 hz1 hz2 wc.heap.size _ n1 _ ([] ++ pl) (by rfl) (by assumption) gd nd cd D (by rfl) ?_ (by omega) ?_ (n1 + nd) rfl ?_; exact held_rd HRD9.out (by assumption); exact (by have := hgr.size; simp at this; omega); intro g2 cap2 W2 hown2 hgr hgb)
            | (go_at_call 31; refine (K5.out _ _ _ _ ?_ HLL.out ?_).mono ?_; exact held_sent HS10.out (by assumption); exact Row.of_owns (by assumption); rintro e w' ⟨rfl, hbr⟩))
        all_goals (go_wp2_with fail; go_meet; refine ⟨by simp, ?_⟩; first | assumption | exact held_all hbr (by assumption))
    case rest =>
      obtain ⟨rfl, hS⟩ := hcut
      clear HSC
      have HSC := Lib.hid hS
      clear hS
      go_upto_region 15 with fail
      go_cut [88] (fun v wx => v = .bool false ∧ Below w10.heap.size w10 wx ∧ wx.cell? ⟨b4, 0, none⟩ = some (.int .i64 pc) ∧ wx.cell? ⟨b4, 1, none⟩ = some (.slice a1 n1 c1) ∧ wx.cell? ⟨b6, 0, none⟩ = some (.int .i64 rc) ∧ wx.cell? ⟨b6, 1, none⟩ = some (.int .i64 rv) ∧ wx.cell? ⟨b6, 2, none⟩ = some (.int .i64 (rk : Int)) ∧ wx.cell? ⟨b8, 0, none⟩ = some (.int .i64 tf) ∧ wx.cell? ⟨b8, 1, none⟩ = some (.slice a2 n2 c2) ∧ wx.cell? ⟨b10, 0, none⟩ = some (.int .i64 uc) ∧ wx.cell? ⟨b10, 1, none⟩ = some (.string ut) ∧ wx.cell? ⟨b10, 2, none⟩ = some (.int .i64 uk))
      case first =>
        obtain ⟨hB, q0, q1, q2, q3, q4, q5, q6, q7, q8, q9⟩ := HSC.out
        have hfs := neqString
        by_cases htf : tf = 0
        · subst htf
          have h60 := fault0_size HF0.out
          obtain ⟨r1, r2, r3⟩ := sread_app t M HF0.out
          rw [HF1.out] at r1 r2 r3
          have hsc : scode (tl ++ M) = 0 := by unfold scode; rw [r1]; rfl
          have htl : tl = vput t.size ++ bytesI t.data.toList := by rw [← HF1.out]; unfold psList; rw [if_pos HF0.out]; simp
          have htb : ∀ y ∈ tl, 0 ≤ y ∧ y ≤ 255 := by rw [htl]; exact mem_app (vput_bytes _ _ (Nat.le_refl _)) (bytesI_bytes _)
          have hn2 := owns_length HQ9.out
          have hlm := psList_length t.data.toList
          rw [HF1.out] at hlm
          have hl0 : 0 < tl.length := by rw [htl]; have := vput_pos t.size; simp; omega
          have K6 := Lib.hid (fun (W : World) (g m cap : Nat) (hs : Sent W sa) (hT : Tabs W) (hm : m = (tl ++ M).length) (hr : Row W .u8 (.slice (some ⟨g, 0, none⟩) m cap) (tl ++ M)) => implReadString_any _ m cap (tl ++ M) W sa hs hT hm hr (getD_of_mem (mem_app htb HMB.out)))
          rw [hsc, r2, r3, ← hn2] at K6
          obtain ⟨gp, rfl⟩ : ∃ g, a2 = some ⟨g, 0, none⟩ := by
            rcases HQ9.out.2 with ⟨hv, h0⟩ | ⟨g, cap, cur, hv, _⟩
            · omega
            · simp only [Value.slice.injEq] at hv
              exact ⟨g, hv.1⟩
          have hn2m : n2 ≤ 61 := by omega
          have HLL : Hid (n2 + nm = (tl ++ M).length) := Lib.hid (by have := HNM.out; simp; omega)
          have HSB : Hid (w10.heap.size ≤ wc.heap.size ∧ (b4 < wc.heap.size ∧ b6 < wc.heap.size ∧ b8 < wc.heap.size ∧ b10 < wc.heap.size)) := Lib.hid ⟨hB.size, cell_some_lt q0, cell_some_lt q2, cell_some_lt q5, cell_some_lt q7⟩
          obtain ⟨i0, hi, hz0, hz1, hz2⟩ := info_parts varInfo
          have hSd : Below w10.heap.size w10 wc.drew ∧ wc.drew.cell? ⟨b4, 0, none⟩ = some (.int .i64 pc) ∧ wc.drew.cell? ⟨b4, 1, none⟩ = some (.slice a1 n1 c1) ∧ wc.drew.cell? ⟨b6, 0, none⟩ = some (.int .i64 rc) ∧ wc.drew.cell? ⟨b6, 1, none⟩ = some (.int .i64 rv) ∧ wc.drew.cell? ⟨b6, 2, none⟩ = some (.int .i64 (rk : Int)) ∧ wc.drew.cell? ⟨b8, 0, none⟩ = some (.int .i64 0) ∧ wc.drew.cell? ⟨b8, 1, none⟩ = some (.slice (some ⟨gp, 0, none⟩) n2 c2) ∧ wc.drew.cell? ⟨b10, 0, none⟩ = some (.int .i64 uc) ∧ wc.drew.cell? ⟨b10, 1, none⟩ = some (.string ut) ∧ wc.drew.cell? ⟨b10, 2, none⟩ = some (.int .i64 uk) := held_all ((Below.refl _ _).drew) HSC.out
          clear hn2 hlm hl0 r1 r2 r3 hsc htl htb hB
          go_region_held3 (fun W => Below w10.heap.size w10 W ∧ W.cell? ⟨b4, 0, none⟩ = some (.int .i64 pc) ∧ W.cell? ⟨b4, 1, none⟩ = some (.slice a1 n1 c1) ∧ W.cell? ⟨b6, 0, none⟩ = some (.int .i64 rc) ∧ W.cell? ⟨b6, 1, none⟩ = some (.int .i64 rv) ∧ W.cell? ⟨b6, 2, none⟩ = some (.int .i64 (rk : Int)) ∧ W.cell? ⟨b8, 0, none⟩ = some (.int .i64 0) ∧ W.cell? ⟨b8, 1, none⟩ = some (.slice (some ⟨gp, 0, none⟩) n2 c2) ∧ W.cell? ⟨b10, 0, none⟩ = some (.int .i64 uc) ∧ W.cell? ⟨b10, 1, none⟩ = some (.string ut) ∧ W.cell? ⟨b10, 2, none⟩ = some (.int .i64 uk))
            (first | assumption | exact held_all hbr (by assumption) | exact held_all ((below1 _ _).trans ((Below.refl _ _).drew)) (by assumption) | exact held_all (below1 _ _) (by assumption) | exact held_grown hgr (fun k e => by cases e; exact hgb) HSB.out.1 HSB.out.2 (by assumption))
            (first
              | (refine step_app (by rfl) _ _ 22 rfl 5 i0 Tryd.underlying22 hi hz0 hz1 hz2 wc.heap.size wc.heap.size 0 0 [] (by rfl) (lit_owns wc 5 .u8 [] 0 rfl (by decide)) gp n2 c2 tl (by rfl) ?_ (by omega) ?_ n2 (by omega) ?_; exact held_own HQ9.out (by assumption); exact (Nat.le_of_lt (by simp)); intro g1 cap1 W1 hown1 hgr hgb)
              | (refine step_app (by rfl) _ _ 22 rfl 5 i0 Tryd.underlying22 hi hz0 hz1 hz2 wc.heap.size _ n2 _ ([] ++ tl) (by rfl) (by assumption) gm nm cm M (by rfl) ?_ (by omega) ?_ (n2 + nm) rfl ?_; exact held_rd HRM9.out (by assumption); exact (by have := hgr.size; simp at this; omega); intro g2 cap2 W2 hown2 hgr hgb)
              | (go_at_call 35; refine (K6.out _ _ _ _ ?_ ?_ HLL.out ?_).mono ?_; exact held_sent HS10.out (by assumption); exact held_tabs2 HT10.out (by assumption); exact Row.of_owns (by assumption); rintro e w' ⟨rfl, hbr⟩))
          all_goals (go_wp2_with fail; go_meet; refine ⟨by simp, ?_⟩; first | assumption | exact held_all hbr (by assumption))
        · have h0 : (tf == 0) = false := by simpa using htf
          have h1 : (tf != 0) = true := by simpa using htf
          clear hB htf
          go_quiet (fail)
          go_wp2_with fail
          go_meet
          exact ⟨rfl, held_all (below_drewN (Below.refl _ _) _) HSC.out⟩
      case rest =>
        obtain ⟨rfl, hS⟩ := hcut
        clear HSC
        have HSC := Lib.hid hS
        clear hS
        go_upto_region 17 with fail
        go_cut [115] (fun v wx => v = .bool false ∧ Below w10.heap.size w10 wx ∧ wx.cell? ⟨b4, 0, none⟩ = some (.int .i64 pc) ∧ wx.cell? ⟨b4, 1, none⟩ = some (.slice a1 n1 c1) ∧ wx.cell? ⟨b6, 0, none⟩ = some (.int .i64 rc) ∧ wx.cell? ⟨b6, 1, none⟩ = some (.int .i64 rv) ∧ wx.cell? ⟨b6, 2, none⟩ = some (.int .i64 (rk : Int)) ∧ wx.cell? ⟨b8, 0, none⟩ = some (.int .i64 tf) ∧ wx.cell? ⟨b8, 1, none⟩ = some (.slice a2 n2 c2) ∧ wx.cell? ⟨b10, 0, none⟩ = some (.int .i64 uc) ∧ wx.cell? ⟨b10, 1, none⟩ = some (.string ut) ∧ wx.cell? ⟨b10, 2, none⟩ = some (.int .i64 uk))
        case first =>
          obtain ⟨hB, q0, q1, q2, q3, q4, q5, q6, q7, q8, q9⟩ := HSC.out
          cases hok : vreadOk D
          · have e1 : rc = 5 := by rw [← HR0.out]; unfold vcode; rw [hok]; rfl
            subst e1
            clear hB hok
            go_quiet (fail)
            go_wp2_with fail
            go_meet
            exact ⟨rfl, held_all (below_drewN (Below.refl _ _) _) HSC.out⟩
          · have e1 : rc = 0 := by rw [← HR0.out]; unfold vcode; rw [hok]; rfl
            subst e1
            obtain ⟨b1, b2⟩ := vread_back D HDG.out hok
            have b3 := (vreadK_le D).1
            have b4' := vreadN_bd D
            rw [HR2.out] at b1 b2 b3
            rw [HR1.out] at b1 b4'
            obtain ⟨V, rfl⟩ : ∃ V : Nat, rv = V := ⟨rv.toNat, by omega⟩
            rw [Int.toNat_natCast] at b1
            have hV : ((V : Int)) ≤ 9223372036854775807 := b4'.2
            have hpv : pvList (V : Int) = D.take rk := by unfold pvList; rw [if_neg (by omega), Int.toNat_natCast, b1]
            have hpc0 : pvCode (V : Int) = 0 := by unfold pvCode; rw [if_neg (by omega)]
            have K7 := Lib.hid (fun W => implPutVar_any (V : Int) hV W)
            rw [hpv, hpc0] at K7
            have hcap := (row_cap (held_rd HRD9.out HSC.out)).1
            have hrkn : rk ≤ nd := by have := HND.out; omega
            have HUP : Hid (∀ W, Below w10.heap.size w10 W → Row W .u8 (.slice (some ⟨gd, 0, none⟩) rk cd) (D.take rk)) := Lib.hid (fun W hW => (HRD9.out.below hW).upto rk hrkn)
            have hSd : Below w10.heap.size w10 wc.drew ∧ wc.drew.cell? ⟨b4, 0, none⟩ = some (.int .i64 pc) ∧ wc.drew.cell? ⟨b4, 1, none⟩ = some (.slice a1 n1 c1) ∧ wc.drew.cell? ⟨b6, 0, none⟩ = some (.int .i64 0) ∧ wc.drew.cell? ⟨b6, 1, none⟩ = some (.int .i64 (V : Int)) ∧ wc.drew.cell? ⟨b6, 2, none⟩ = some (.int .i64 (rk : Int)) ∧ wc.drew.cell? ⟨b8, 0, none⟩ = some (.int .i64 tf) ∧ wc.drew.cell? ⟨b8, 1, none⟩ = some (.slice a2 n2 c2) ∧ wc.drew.cell? ⟨b10, 0, none⟩ = some (.int .i64 uc) ∧ wc.drew.cell? ⟨b10, 1, none⟩ = some (.string ut) ∧ wc.drew.cell? ⟨b10, 2, none⟩ = some (.int .i64 uk) := held_all ((Below.refl _ _).drew) HSC.out
            have hfB := fldB1'
            have l1 : (1 : Int) ≤ (rk : Int) := by omega
            have l2 : (rk : Int) ≤ (nd : Int) := by omega
            have l3 : (rk : Int) ≤ (cd : Int) := by omega
            have l4 : 0 ≤ (rk : Int) := by omega
            have l5 : ((rk : Int)).toNat = rk := Int.toNat_natCast _
            have l6 : decide ((rk : Int) < 1) = false := by simp; omega
            have l7 : decide (nd < rk) = false := by simp; omega
            have l8 : decide ((nd : Int) < (rk : Int)) = false := by simp; omega
            clear hB hok b1 b2 b3 b4' hV hpv hpc0 hcap
            go_region_held3 (fun W => Below w10.heap.size w10 W ∧ W.cell? ⟨b4, 0, none⟩ = some (.int .i64 pc) ∧ W.cell? ⟨b4, 1, none⟩ = some (.slice a1 n1 c1) ∧ W.cell? ⟨b6, 0, none⟩ = some (.int .i64 0) ∧ W.cell? ⟨b6, 1, none⟩ = some (.int .i64 (V : Int)) ∧ W.cell? ⟨b6, 2, none⟩ = some (.int .i64 (rk : Int)) ∧ W.cell? ⟨b8, 0, none⟩ = some (.int .i64 tf) ∧ W.cell? ⟨b8, 1, none⟩ = some (.slice a2 n2 c2) ∧ W.cell? ⟨b10, 0, none⟩ = some (.int .i64 uc) ∧ W.cell? ⟨b10, 1, none⟩ = some (.string ut) ∧ W.cell? ⟨b10, 2, none⟩ = some (.int .i64 uk))
              (first | assumption | exact held_all hbr (by assumption))
              (first
                | (go_at_call 29; refine (K7.out _).mono ?_; rintro e w' ⟨ar, nr, cr, rfl, hor, hbr⟩)
                | (go_at_call 40; refine (lwSame_true _ _ _ _ _ _ (D.take rk) _ ?_ ?_).mono ?_; exact Row.of_owns (by assumption); exact HUP.out _ (held_below (by assumption)); rintro e w' ⟨rfl, hdr⟩; have hbr := drew_below hdr))
            all_goals (go_wp2_with fail; go_meet; refine ⟨by simp, ?_⟩; first | assumption | exact held_all hbr (by assumption))
        case rest =>
          obtain ⟨rfl, hS⟩ := hcut
          clear HSC
          have HSC := Lib.hid hS
          clear hS
          go_upto_region 19 with fail
          obtain ⟨hB, q0, q1, q2, q3, q4, q5, q6, q7, q8, q9⟩ := HSC.out
          have HBW := Lib.hid (below_then HB9.out hB)
          cases hok : sOk M
          · have e1 : uc = 5 := by rw [← HS0.out]; unfold scode; rw [hok]; rfl
            subst e1
            clear hB hok
            go_quiet (fail)
            go_wp2
            go_ret
            exact ⟨rfl, below_drewN HBW.out _⟩
          · have e1 : uc = 0 := by rw [← HS0.out]; unfold scode; rw [hok]; rfl
            subst e1
            obtain ⟨b1, b2, b3, b4', b5⟩ := sread_back M HMB.out HMG.out hok
            rw [HS2.out] at b1 b2 b3
            rw [HS1.out] at b1 b4' b5
            obtain ⟨U, rfl⟩ : ∃ U : Nat, uk = U := ⟨uk.toNat, by omega⟩
            rw [Int.toNat_natCast] at b1
            have K8 := Lib.hid (fun (W : World) (hT : Tabs W) => implPutString_any ut (by unfold maxLen; omega) W hT)
            rw [b1, b4'] at K8
            have hcap := (row_cap (held_rd HRM9.out HSC.out)).1
            have hun : U ≤ nm := by have := HNM.out; omega
            have HUP : Hid (∀ W, Below w10.heap.size w10 W → Row W .u8 (.slice (some ⟨gm, 0, none⟩) U cm) (M.take U)) := Lib.hid (fun W hW => (HRM9.out.below hW).upto U hun)
            have hSd : Below w10.heap.size w10 wc.drew ∧ wc.drew.cell? ⟨b4, 0, none⟩ = some (.int .i64 pc) ∧ wc.drew.cell? ⟨b4, 1, none⟩ = some (.slice a1 n1 c1) ∧ wc.drew.cell? ⟨b6, 0, none⟩ = some (.int .i64 rc) ∧ wc.drew.cell? ⟨b6, 1, none⟩ = some (.int .i64 rv) ∧ wc.drew.cell? ⟨b6, 2, none⟩ = some (.int .i64 (rk : Int)) ∧ wc.drew.cell? ⟨b8, 0, none⟩ = some (.int .i64 tf) ∧ wc.drew.cell? ⟨b8, 1, none⟩ = some (.slice a2 n2 c2) ∧ wc.drew.cell? ⟨b10, 0, none⟩ = some (.int .i64 0) ∧ wc.drew.cell? ⟨b10, 1, none⟩ = some (.string ut) ∧ wc.drew.cell? ⟨b10, 2, none⟩ = some (.int .i64 (U : Int)) := held_all ((Below.refl _ _).drew) HSC.out
            have hfB := fldB1'
            have l1 : (1 : Int) ≤ (U : Int) := by omega
            have l2 : (U : Int) ≤ (nm : Int) := by omega
            have l3 : (U : Int) ≤ (cm : Int) := by omega
            have l4 : 0 ≤ (U : Int) := by omega
            have l5 : ((U : Int)).toNat = U := Int.toNat_natCast _
            have l6 : decide (1 ≤ (U : Int)) = true := by simp; omega
            have l7 : decide (U ≤ nm) = true := by simp; omega
            have l8 : decide ((U : Int) ≤ (nm : Int)) = true := by simp; omega
            clear hB hok b1 b2 b3 b4' b5 hcap
            go_region_held3 (fun W => Below w10.heap.size w10 W ∧ W.cell? ⟨b4, 0, none⟩ = some (.int .i64 pc) ∧ W.cell? ⟨b4, 1, none⟩ = some (.slice a1 n1 c1) ∧ W.cell? ⟨b6, 0, none⟩ = some (.int .i64 rc) ∧ W.cell? ⟨b6, 1, none⟩ = some (.int .i64 rv) ∧ W.cell? ⟨b6, 2, none⟩ = some (.int .i64 (rk : Int)) ∧ W.cell? ⟨b8, 0, none⟩ = some (.int .i64 tf) ∧ W.cell? ⟨b8, 1, none⟩ = some (.slice a2 n2 c2) ∧ W.cell? ⟨b10, 0, none⟩ = some (.int .i64 0) ∧ W.cell? ⟨b10, 1, none⟩ = some (.string ut) ∧ W.cell? ⟨b10, 2, none⟩ = some (.int .i64 (U : Int)))
              (first | assumption | exact held_all hbr (by assumption))
              (first
                | (go_at_call 33; refine (K8.out _ ?_).mono ?_; exact held_tabs2 HT10.out (by assumption); rintro e w' ⟨ar, nr, cr, rfl, hor, hbr⟩)
                | (go_at_call 40; refine (lwSame_true _ _ _ _ _ _ (M.take U) _ ?_ ?_).mono ?_; exact Row.of_owns (by assumption); exact HUP.out _ (held_below (by assumption)); rintro e w' ⟨rfl, hdr⟩; have hbr := drew_below hdr))
            all_goals
              go_wp2
              go_ret
              exact ⟨ret_bool (by simp), below_then HB9.out (held_below (by first | assumption | exact held_all hbr (by assumption)))⟩

theorem fnVars_walk (a : Option Addr) (n c : Nat) (xs : List Int) (w : World) (h : InRow w a n c xs) (hT : Tabs w) (sa : Addr) (hs : Sent w sa) :
    Calls Tryd.prog 4 #[.slice a n c] w fun e w' => e = .returned (.bool true) ∧ Below w.heap.size w w' := by
  by_cases hs2 : n ≤ 1048576
  · exact fnVars_walk0 a n c xs w ⟨h.len, hs2, h.byte, h.row⟩ hT sa hs
  · have hbig : decide (1048576 < n) = true := by simp; omega
    have hm := h.max
    unfold maxLen at hm
    go_enter Tryd.func4, Tryd.ntmps4
    go_wp2_with fail
    refine (lwBig_any a n c (by omega) _).mono ?_
    rintro e w1 ⟨rfl, rfl⟩
    rw [hbig]
    go_wp2
    go_ret
    exact ⟨rfl, Below.refl _ _⟩
end Go.Proofs.YtmgemchpclmknaaDoor
