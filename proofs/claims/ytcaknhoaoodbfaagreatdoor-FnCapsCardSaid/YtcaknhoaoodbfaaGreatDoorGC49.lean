/- The laws' lwAt at 2. -/
import Derived.Test.YtcaknhoaoodbfaaGreatDoorGC2
import Derived.StillTailTactics
import Derived.IntWalk
import Derived.Test.YtcaknhoaoodbfaaGreatDoorGC0
import Derived.Test.YtcaknhoaoodbfaaGreatDoorGC13
import Derived.Test.YtcaknhoaoodbfaaGreatDoorGC48
import Derived.Test.YtcaknhoaoodbfaaGreatDoorGC47
import Derived.Test.YtcaknhoaoodbfaaGreatDoorGC7
import Derived.Deep.RegionHeld3
namespace Go.Proofs.YtcaknhoaoodbfaaGreatDoor
open Go.ChangeShapes Go.WideShapes Go.ChangeAt Go.RowKit
set_option linter.unusedVariables false

/-- a number below the bound is handed back -/
def AtRes (w : World) (N : Nat) (en : Ending) (w' : World) : Prop := ∃ z : Nat, en = .returned (.int .i64 z) ∧ z < N ∧ ∃ nd, w' = w.drewN nd

set_option maxRecDepth 100000 in
set_option maxHeartbeats 3200000 in
theorem lwAt2_any (a : Option Addr) (n c : Nat) (xs : List Int) (N : Nat) (hN1 : 1 ≤ N) (hN2 : N ≤ 100000) (w : World) (h : CodeAt w a n c xs) :
    Calls Tryz.prog 49 #[.slice a n c, .int .i64 2, .int .i64 N] w (AtRes w N) := by
  have hsz := h.size
  have hby := h.byte
  have HR := Lib.hid h.row
  clear h
  unfold AtRes
  by_cases h1 : N ≤ 1
  · obtain rfl : N = 1 := by omega
    go_enter Tryz.func49, Tryz.ntmps49
    go_wp2
    go_ret
    exact ⟨0, rfl, by decide, 0, rfl⟩
  · have q1 : ¬ ((N : Int) ≤ 1) := by omega
    have q2 : (N : Int) ≠ 0 := by omega
    by_cases h0 : n = 0
    · subst h0
      have e1 : (14 : Int).tmod (N : Int) = ((14 % N : Nat) : Int) := by rw [Int.tmod_eq_emod_of_nonneg (by decide)]; rfl
      go_enter Tryz.func49, Tryz.ntmps49
      go_wp2
      go_ret
      exact ⟨14 % N, rfl, Nat.mod_lt _ (by omega), 0, rfl⟩
    · obtain ⟨rb, ro, rfl, hrb, hcl⟩ := HR.out.resolve_left h0
      have hn0 : (n : Int) ≠ 0 := by omega
      have hn0b : ((n : Int) == 0) = false := by rw [beq_eq_false_iff_ne]; exact hn0
      have d1 := hcl (2 % n) (Nat.mod_lt _ (by omega))
      have d2 := hcl (3 % n) (Nat.mod_lt _ (by omega))
      have i1 : 2 % n < n := Nat.mod_lt _ (by omega)
      have i2 : 3 % n < n := Nat.mod_lt _ (by omega)
      have m1 : (2 : Int).tmod (n : Int) = ((2 % n : Nat) : Int) := by rw [Int.tmod_eq_emod_of_nonneg (by decide)]; rfl
      have m2 : (3 : Int).tmod (n : Int) = ((3 % n : Nat) : Int) := by rw [Int.tmod_eq_emod_of_nonneg (by decide)]; rfl
      have hq2 : 2 / n ≤ 2 := Nat.div_le_self _ _
      have m3 : IntKind.i64.wrap ((2 : Int).tdiv (n : Int)) = ((2 / n : Nat) : Int) := by
        rw [Int.tdiv_eq_ediv_of_nonneg (by decide)]
        exact IntWalk.i64_in (((2 / n : Nat) : Nat) : Int) ⟨Int.le_trans (by decide) (Int.natCast_nonneg _), Int.le_trans (Int.ofNat_le.2 hq2) (by decide)⟩
      have y1 := hby (2 % n)
      have y2 := hby (3 % n)
      clear hby hcl
      generalize 2 % n = j1 at *
      generalize 3 % n = j2 at *
      generalize 2 / n = qn at *
      generalize xs.getD j1 0 = x1 at *
      generalize xs.getD j2 0 = x2 at *
      obtain ⟨y10, y11⟩ := y1
      obtain ⟨y20, y21⟩ := y2
      obtain ⟨X1, rfl⟩ := Int.eq_ofNat_of_zero_le y10
      obtain ⟨X2, rfl⟩ := Int.eq_ofNat_of_zero_le y20
      have v1 : IntKind.i64.wrap (X1 : Int) = (X1 : Int) := IntWalk.i64_in _ (by omega)
      have v2 : IntKind.i64.wrap (X2 : Int) = (X2 : Int) := IntWalk.i64_in _ (by omega)
      have v3 : IntKind.i64.wrap ((qn : Int) * 3) = (qn : Int) * 3 := IntWalk.i64_in _ (by omega)
      have v4 : IntKind.i64.wrap ((X1 : Int) + (qn : Int) * 3) = (X1 : Int) + (qn : Int) * 3 := IntWalk.i64_in _ (by omega)
      have j1i : (j1 : Int) < (n : Int) := by omega
      have j2i : (j2 : Int) < (n : Int) := by omega
      by_cases h2 : 200 < N
      · have q3 : (200 : Int) < (N : Int) := by omega
        have v5 : IntKind.i64.wrap (((X1 : Int) + (qn : Int) * 3) * 251) = ((X1 : Int) + (qn : Int) * 3) * 251 := IntWalk.i64_in _ (by omega)
        have v6 : IntKind.i64.wrap (((X1 : Int) + (qn : Int) * 3) * 251 + (X2 : Int)) = ((X1 : Int) + (qn : Int) * 3) * 251 + (X2 : Int) := IntWalk.i64_in _ (by omega)
        have e1 : (((X1 : Int) + (qn : Int) * 3) * 251 + (X2 : Int)).tmod (N : Int) = ((((X1 + qn * 3) * 251 + X2) % N : Nat) : Int) := by rw [Int.tmod_eq_emod_of_nonneg (by omega)]; simp
        go_enter Tryz.func49, Tryz.ntmps49
        go_wp2
        refine wp_region_still_lit (by kernel_rfl) (by kernel_rfl) ?_
        repeat still_step
        refine wpStill_nil ?_
        rw [show ({ w with drawn := w.drawn + 1 } : World) = w.drew from rfl]
        go_wp2
        go_ret
        exact ⟨((X1 + qn * 3) * 251 + X2) % N, by simp, Nat.mod_lt _ (by omega), 1, rfl⟩
      · have q3 : ¬ ((200 : Int) < (N : Int)) := by omega
        have e1 : ((X1 : Int) + (qn : Int) * 3).tmod (N : Int) = (((X1 + qn * 3) % N : Nat) : Int) := by rw [Int.tmod_eq_emod_of_nonneg (by omega)]; simp
        go_enter Tryz.func49, Tryz.ntmps49
        go_wp2
        refine wp_region_still_lit (by kernel_rfl) (by kernel_rfl) ?_
        repeat still_step
        refine wpStill_nil ?_
        rw [show ({ w with drawn := w.drawn + 1 } : World) = w.drew from rfl]
        go_wp2
        go_ret
        exact ⟨(X1 + qn * 3) % N, by simp, Nat.mod_lt _ (by omega), 1, rfl⟩
end Go.Proofs.YtcaknhoaoodbfaaGreatDoor

/- Texts with a code compared as structs. -/
namespace Go.Proofs.YtcaknhoaoodbfaaGreatDoor
open Go.ChangeShapes Go.WideShapes Go.ChangeAt Go.RowKit
set_option linter.unusedVariables false

theorem neqText (x : Int) (s : ByteArray) (w : World) : (binOp .neq 42 (.agg #[.int .i64 x, .string s]) (.agg #[.int .i64 x, .string s])).run Tryz.prog w = .ok (.bool false) w := by
  have u3 := Tryz.underlying2
  have u4 := Tryz.underlying9
  have hS : Tryz.prog.underlying 42 = some (.struct (Tryz.prog.fieldsOf 42)) := by kernel_rfl
  rw [run_neq_struct, show (10000 : Nat) = 9999 + 1 from rfl, run_equalIn_agg w 9999 _ _ _ hS (by kernel_rfl)]
  simp only [Program.fieldsOf, Tryz.underlying42]
  go_simp
end Go.Proofs.YtcaknhoaoodbfaaGreatDoor

/- The walk of FnCaps. -/
namespace Go.Proofs.YtcaknhoaoodbfaaGreatDoor
open Go.ChangeShapes Go.WideShapes Go.ChangeAt Go.RowKit
set_option linter.unusedVariables false
set_option linter.unusedSimpArgs false

theorem eqText2 (x : Int) (s : ByteArray) (w : World) : (binOp .eql 42 (.agg #[.int .i64 x, .string s]) (.agg #[.int .i64 x, .string s])).run Tryz.prog w = .ok (.bool true) w := by
  have u3 := Tryz.underlying2
  have u4 := Tryz.underlying9
  have hS : Tryz.prog.underlying 42 = some (.struct (Tryz.prog.fieldsOf 42)) := by kernel_rfl
  rw [run_eql_struct, show (10000 : Nat) = 9999 + 1 from rfl, run_equalIn_agg w 9999 _ _ _ hS (by kernel_rfl)]
  simp only [Program.fieldsOf, Tryz.underlying42]
  go_simp
theorem X2.below {w w' : World} {x : Nat} {v0 v1 : Value} (h : X2 w x v0 v1) (hb : Below w.heap.size w w') : X2 w' x v0 v1 := h.grown (grown_of_below hb none) (by simp)
theorem held10 {w0 W W' : World} {b0 b1 b2 b3 : Nat} {u0 u1 u2 u3 u4 u5 u6 u7 u8 u9 : Value} (hb : Below W.heap.size W W')
    (h : Below w0.heap.size w0 W ∧ W.cell? ⟨b0, 0, none⟩ = some u0 ∧ W.cell? ⟨b0, 1, none⟩ = some u1 ∧ W.cell? ⟨b1, 0, none⟩ = some u2 ∧ W.cell? ⟨b1, 1, none⟩ = some u3 ∧ W.cell? ⟨b2, 0, none⟩ = some u4 ∧ W.cell? ⟨b2, 1, none⟩ = some u5 ∧ W.cell? ⟨b3, 0, none⟩ = some u6 ∧ W.cell? ⟨b3, 1, none⟩ = some u7 ∧ W.cell? ⟨b3, 2, none⟩ = some u8 ∧ W.cell? ⟨b3, 3, none⟩ = some u9) :
    Below w0.heap.size w0 W' ∧ W'.cell? ⟨b0, 0, none⟩ = some u0 ∧ W'.cell? ⟨b0, 1, none⟩ = some u1 ∧ W'.cell? ⟨b1, 0, none⟩ = some u2 ∧ W'.cell? ⟨b1, 1, none⟩ = some u3 ∧ W'.cell? ⟨b2, 0, none⟩ = some u4 ∧ W'.cell? ⟨b2, 1, none⟩ = some u5 ∧ W'.cell? ⟨b3, 0, none⟩ = some u6 ∧ W'.cell? ⟨b3, 1, none⟩ = some u7 ∧ W'.cell? ⟨b3, 2, none⟩ = some u8 ∧ W'.cell? ⟨b3, 3, none⟩ = some u9 := by
  obtain ⟨h0, h1, h2, h3, h4, h5, h6, h7, h8, h9, h10⟩ := h
  have k : ∀ b o v, W.cell? ⟨b, o, none⟩ = some v → W'.cell? ⟨b, o, none⟩ = some v := fun b o v h => (hb.cell (World.block_lt_of_cell? W _ h)).trans h
  exact ⟨below_then h0 hb, k _ _ _ h1, k _ _ _ h2, k _ _ _ h3, k _ _ _ h4, k _ _ _ h5, k _ _ _ h6, k _ _ _ h7, k _ _ _ h8, k _ _ _ h9, k _ _ _ h10⟩
theorem held8 {w0 W W' : World} {b0 b1 b2 b3 : Nat} {u0 u1 u2 u3 u4 u5 u6 u7 : Value} (hb : Below W.heap.size W W')
    (h : Below w0.heap.size w0 W ∧ W.cell? ⟨b0, 0, none⟩ = some u0 ∧ W.cell? ⟨b0, 1, none⟩ = some u1 ∧ W.cell? ⟨b1, 0, none⟩ = some u2 ∧ W.cell? ⟨b1, 1, none⟩ = some u3 ∧ W.cell? ⟨b2, 0, none⟩ = some u4 ∧ W.cell? ⟨b2, 1, none⟩ = some u5 ∧ W.cell? ⟨b3, 0, none⟩ = some u6 ∧ W.cell? ⟨b3, 1, none⟩ = some u7) :
    Below w0.heap.size w0 W' ∧ W'.cell? ⟨b0, 0, none⟩ = some u0 ∧ W'.cell? ⟨b0, 1, none⟩ = some u1 ∧ W'.cell? ⟨b1, 0, none⟩ = some u2 ∧ W'.cell? ⟨b1, 1, none⟩ = some u3 ∧ W'.cell? ⟨b2, 0, none⟩ = some u4 ∧ W'.cell? ⟨b2, 1, none⟩ = some u5 ∧ W'.cell? ⟨b3, 0, none⟩ = some u6 ∧ W'.cell? ⟨b3, 1, none⟩ = some u7 := by
  obtain ⟨h0, h1, h2, h3, h4, h5, h6, h7, h8⟩ := h
  have k : ∀ b o v, W.cell? ⟨b, o, none⟩ = some v → W'.cell? ⟨b, o, none⟩ = some v := fun b o v h => (hb.cell (World.block_lt_of_cell? W _ h)).trans h
  exact ⟨below_then h0 hb, k _ _ _ h1, k _ _ _ h2, k _ _ _ h3, k _ _ _ h4, k _ _ _ h5, k _ _ _ h6, k _ _ _ h7, k _ _ _ h8⟩

set_option maxRecDepth 100000 in
set_option maxHeartbeats 12800000 in
theorem fnCaps_walk0 (a : Option Addr) (n c : Nat) (xs : List Int) (w : World) (hC : CodeAt w a n c xs) (hT : Tabs w) :
    Calls Tryz.prog 5 #[.slice a n c] w fun e w' => e = .returned (.bool true) ∧ Below w.heap.size w w' := by
  obtain ⟨i0, hi, hz0, hz1, hz2⟩ := info_parts identInfo
  obtain ⟨j0, hj, hjz0, hjz1, hjz2⟩ := info_parts strInfoD
  have hn := hC.size
  have hbig : decide (1048576 < n) = false := by simp; omega
  have HC := Lib.hid hC
  have HT := Lib.hid hT
  clear hC hT
  go_enter Tryz.func5, Tryz.ntmps5
  go_wp2_with fail
  refine (lwBig_any a n c (by omega) _).mono ?_
  rintro e w1 ⟨rfl, rfl⟩
  rw [hbig]
  go_wp2_with fail
  have KD := drawCapsString_any a n c xs w1 HC.out
  unfold TopDis at KD
  refine KD.mono ?_
  clear KD
  rintro e w2 ⟨a1, n1, c1, a2, n2, c2, d, rfl, hd, hsm, hcap, hn1, hn2, hb2⟩
  have B2 := Lib.hid hb2
  have HD := Lib.hid hd
  have HSM := Lib.hid hsm
  have HCAP := Lib.hid hcap
  have hl1 := hd.ids.len
  have hl2 := hd.feats.len
  have HT2 := Lib.hid (fun W (h : Below w2.heap.size w2 W) => tabs_kept HT.out (below_then B2.out h))
  have KI1 := Lib.hid (fun W (h : Below w2.heap.size w2 W) => implCapsString_any a1 a2 n1 c1 n2 c2 d W HSM.out HCAP.out (HT2.out W h) (HD.out.below h))
  have KI2 := Lib.hid (fun W (h : Below w2.heap.size w2 W) => implCapsOf_any a1 a2 n1 c1 n2 c2 d W HSM.out HCAP.out (HT2.out W h) (HD.out.below h))
  have KI3 := Lib.hid (fun W (h : Below w2.heap.size w2 W) => implDiscoFault_any a1 a2 n1 c1 n2 c2 d W HSM.out HCAP.out (HT2.out W h) (HD.out.below h))
  have KS1 := Lib.hid (fun W (h : Below w2.heap.size w2 W) => specCapsString_any a1 a2 n1 c1 n2 c2 d W HSM.out (HD.out.below h))
  have KS2 := Lib.hid (fun W (h : Below w2.heap.size w2 W) => specCapsOf_any a1 a2 n1 c1 n2 c2 d W HSM.out (HD.out.below h))
  have KS3 := Lib.hid (fun W (h : Below w2.heap.size w2 W) => specDiscoFault_any a1 a2 n1 c1 n2 c2 d W HSM.out (HD.out.below h))
  have KT1 := Lib.hid (fun (z : Nat) (W : World) (a1' a2' : Option Addr) (c1' c2' : Nat) (hcap' : CapOk a1' n1 c1' ∧ CapOk a2' n2 c2') (hT' : Tabs W) (h' : DisAt W a1' n1 c1' a2' n2 c2' (turned d z)) => implCapsString_any a1' a2' n1 c1' n2 c2' (turned d z) W (turned_small z HSM.out) hcap' hT' h')
  have KT2 := Lib.hid (fun (z : Nat) (W : World) (a1' a2' : Option Addr) (c1' c2' : Nat) (hcap' : CapOk a1' n1 c1' ∧ CapOk a2' n2 c2') (hT' : Tabs W) (h' : DisAt W a1' n1 c1' a2' n2 c2' (turned d z)) => implCapsOf_any a1' a2' n1 c1' n2 c2' (turned d z) W (turned_small z HSM.out) hcap' hT' h')
  have F1 := Lib.hid (fun (h : capsCode d = 0) => text_marks h)
  have F2 := Lib.hid (fun (h : capsCode d = 0) => text_size h)
  have F3 := Lib.hid (fun (h : capsCode d = 0) => capsName_size (d := d) h)
  rw [hl1, hl2] at F1
  simp only [turned_code, turned_text, turned_name] at KT1 KT2
  rw [show disCode d = capsCode d from rfl] at KI3 KS3
  unfold TxtRes at KI1 KI2 KS1 KS2 KT1 KT2
  generalize capsCode d = cc at *
  generalize capsText d = ct at *
  generalize capsName d = cn at *
  clear hb2 hd hsm hcap
  go_wp2_with fail
  refine (KI1.out _ (below1 w2 _)).mono ?_
  rintro e w3 ⟨rfl, hb3⟩
  have B3 := Lib.hid (below_then (below1 w2 (.cells #[.slice a1 n1 c1, .slice a2 n2 c2] 50)) hb3)
  have XD3 := Lib.hid ((X2.new w2 50 (.slice a1 n1 c1) (.slice a2 n2 c2)).below hb3)
  have hq0 := XD3.out.c0
  have hq1 := XD3.out.c1
  have hqz := XD3.out.lt
  clear hb3 KI1
  go_wp2_with fail
  refine (KI2.out _ (below_then B3.out (below1 w3 _))).mono ?_
  rintro e w4 ⟨rfl, hb4⟩
  have B4 := Lib.hid (below_then B3.out (below_then (below1 w3 (.cells #[.int .i64 cc, .string ct] 42)) hb4))
  have XD4 := Lib.hid ((XD3.out.below (below1 w3 (.cells #[.int .i64 cc, .string ct] 42))).below hb4)
  have XS4 := Lib.hid ((X2.new w3 42 (.int .i64 cc) (.string ct)).below hb4)
  clear hb4 KI2 hq0 hq1 hqz XD3
  go_wp2_with fail
  have KX := drawIdentityText_any a n c xs _ (HC.out.below (below_then B2.out (below_then B4.out (below1 w4 (.cells #[.int .i64 cc, .string cn] 42)))))
  unfold TopId at KX
  refine KX.mono ?_
  clear KX
  rintro e w5 ⟨⟨xa, xb, xc, xd⟩, rfl, hsx, hb5⟩
  have HSX := Lib.hid hsx
  have KI4 := Lib.hid (fun W (h : Below w2.heap.size w2 W) => implIdentityText_any ⟨xa, xb, xc, xd⟩ W HSX.out (HT2.out W h))
  have KS4 := Lib.hid (fun W => specIdentityText_any ⟨xa, xb, xc, xd⟩ W HSX.out)
  unfold TxtRes at KI4 KS4
  generalize idCode ⟨xa, xb, xc, xd⟩ = ic at *
  generalize idText ⟨xa, xb, xc, xd⟩ = it at *
  have b46 := below_then (below1 w4 (.cells #[.int .i64 cc, .string cn] 42)) (below_then hb5 (below1 w5 (.cells #[.string xa, .string xb, .string xc, .string xd] 54)))
  have B6 := Lib.hid (below_then B4.out b46)
  have XD6 := Lib.hid (XD4.out.below b46)
  have XS6 := Lib.hid (XS4.out.below b46)
  have XC6 := Lib.hid (((X2.new w4 42 (.int .i64 cc) (.string cn)).below hb5).below (below1 w5 (.cells #[.string xa, .string xb, .string xc, .string xd] 54)))
  have XX6 := Lib.hid (X4.new w5 54 (.string xa) (.string xb) (.string xc) (.string xd))
  clear hb5 hsx b46 XD4 XS4
  go_wp2_with fail
  generalize w5.alloc (.cells #[.string xa, .string xb, .string xc, .string xd] 54) = w6 at *
  generalize w2.heap.size = bd at XD6 ⊢
  generalize w3.heap.size = bs at XS6 ⊢
  generalize w4.heap.size = bc at XC6 ⊢
  generalize w5.heap.size = bx at XX6 ⊢
  have p0 := XD6.out.c0
  have p1 := XD6.out.c1
  have p2 := XS6.out.c0
  have p3 := XS6.out.c1
  have p4 := XC6.out.c0
  have p5 := XC6.out.c1
  have p6 := XX6.out.c0
  have p7 := XX6.out.c1
  have p8 := XX6.out.c2
  have p9 := XX6.out.c3
  have l0 := XD6.out.lt
  have l1 := XS6.out.lt
  have l2 := XC6.out.lt
  have l3 := XX6.out.lt
  have nt1 := fun W => neqText cc ct W
  have nt2 := fun W => neqText cc cn W
  have nt3 := fun W => neqText ic it W
  have hS0 : Below w6.heap.size w6 w6.drew ∧ w6.drew.cell? ⟨bd, 0, none⟩ = some (.slice a1 n1 c1) ∧ w6.drew.cell? ⟨bd, 1, none⟩ = some (.slice a2 n2 c2) ∧ w6.drew.cell? ⟨bs, 0, none⟩ = some (.int .i64 cc) ∧ w6.drew.cell? ⟨bs, 1, none⟩ = some (.string ct) ∧ w6.drew.cell? ⟨bc, 0, none⟩ = some (.int .i64 cc) ∧ w6.drew.cell? ⟨bc, 1, none⟩ = some (.string cn) ∧ w6.drew.cell? ⟨bx, 0, none⟩ = some (.string xa) ∧ w6.drew.cell? ⟨bx, 1, none⟩ = some (.string xb) ∧ w6.drew.cell? ⟨bx, 2, none⟩ = some (.string xc) ∧ w6.drew.cell? ⟨bx, 3, none⟩ = some (.string xd) := ⟨(Below.refl _ _).drew, p0, p1, p2, p3, p4, p5, p6, p7, p8, p9⟩
  (go_region_held3 (fun W => Below w6.heap.size w6 W ∧ W.cell? ⟨bd, 0, none⟩ = some (.slice a1 n1 c1) ∧ W.cell? ⟨bd, 1, none⟩ = some (.slice a2 n2 c2) ∧ W.cell? ⟨bs, 0, none⟩ = some (.int .i64 cc) ∧ W.cell? ⟨bs, 1, none⟩ = some (.string ct) ∧ W.cell? ⟨bc, 0, none⟩ = some (.int .i64 cc) ∧ W.cell? ⟨bc, 1, none⟩ = some (.string cn) ∧ W.cell? ⟨bx, 0, none⟩ = some (.string xa) ∧ W.cell? ⟨bx, 1, none⟩ = some (.string xb) ∧ W.cell? ⟨bx, 2, none⟩ = some (.string xc) ∧ W.cell? ⟨bx, 3, none⟩ = some (.string xd)) (first | assumption | exact held10 hbr (by assumption))
    (first
      | (go_at_call 43; refine (KS1.out _ (below_then B6.out (And.left (by assumption)))).mono ?_; rintro e wa ⟨rfl, hbr⟩)
      | (go_at_call 44; refine (KS2.out _ (below_then B6.out (And.left (by assumption)))).mono ?_; rintro e wb ⟨rfl, hbr⟩)
      | (go_at_call 45; refine (KI4.out _ (below_then B6.out (And.left (by assumption)))).mono ?_; rintro e wc ⟨rfl, hbr⟩)
      | (go_at_call 46; refine (KS4.out _).mono ?_; rintro e wd ⟨rfl, hbr⟩)
      | (go_at_call 47; refine (KI3.out _ (below_then B6.out (And.left (by assumption)))).mono ?_; rintro e we ⟨rfl, hbr⟩)
      | (go_at_call 48; refine (KS3.out _ (below_then B6.out (And.left (by assumption)))).mono ?_; rintro e wz ⟨rfl, hbr⟩)))
  have hB8 : Below w6.heap.size w6 wz := And.left (by assumption)
  have B8 := Lib.hid (below_then B6.out hB8)
  have XD8 := Lib.hid (XD6.out.below hB8)
  have XS8 := Lib.hid (XS6.out.below hB8)
  have XC8 := Lib.hid (XC6.out.below hB8)
  clear hB8 hS0 p0 p1 p2 p3 p4 p5 p6 p7 p8 p9 l0 l1 l2 l3 nt1 nt2 nt3 KS1 KS2 KS3 KS4 KI3 KI4 XD6 XS6 XC6 XX6 B6 hbr B3 B4
  have p0 := XD8.out.c0
  have p1 := XD8.out.c1
  have p2 := XS8.out.c0
  have p3 := XS8.out.c1
  have p4 := XC8.out.c0
  have p5 := XC8.out.c1
  have l0 := XD8.out.lt
  have l1 := XS8.out.lt
  have l2 := XC8.out.lt
  by_cases hc0 : cc = 0
  case neg =>
    have hc1 : (cc != 0) = true := by rw [bne_iff_ne]; exact hc0
    clear hc0
    go_wp2
    go_ret
    exact ⟨ret_bool (by simp), below_then B2.out B8.out⟩
  subst hc0
  have hmk := F1.out rfl
  have hct := F2.out rfl
  have hcn := F3.out rfl
  have q1 : IntKind.i64.wrap ((n1 : Int) - 1) = (n1 : Int) - 1 := IntWalk.i64_in _ (by omega)
  have HMK := Lib.hid hmk
  have HD8 := Lib.hid (HD.out.below B8.out)
  clear F1 F2 F3 hmk
  go_upto_region 13 with fail
  go_wp2
  have BB := Lib.hid (BSt.new wz 50)
  go_loopw [8] (fun v wr => ∃ (m k : Nat) (aa : Option Addr) (ca : Nat), v = .int .i64 ((m : Int) - 1) ∧ m + k = n1 ∧ Hid (BSt (wz.alloc (.cells #[.slice none 0 0, .slice none 0 0] 50)) wr wz.heap.size aa k ca (d.ids.reverse.take k) none 0 0 [])) (fun v _ => (intOf v + 1).toNat)
  case atStart => exact ⟨n1, 0, none, 0, rfl, by omega, by rw [List.take_zero]; exact BB⟩
  case round =>
    obtain ⟨m, k, aa, ca, rfl, hmk, DD⟩ := hrel
    clear BB p0 p1 p2 p3 p4 p5 l0 l1 l2
    rcases m with _ | m
    case succ =>
      have e0 : ((m + 1 : Nat) : Int) - 1 = (m : Int) := by omega
      rw [e0]
      clear e0 q1
      have qq0 : (0 : Int) ≤ (m : Int) := by omega
      have qq1 : (m : Int) < (n1 : Int) := by omega
      have q2 : IntKind.i64.wrap ((m : Int) - 1) = (m : Int) - 1 := IntWalk.i64_in _ (by omega)
      obtain ⟨⟨ya, yb, yc, yd⟩, hy⟩ : ∃ y, d.ids.getD m dId = y := ⟨_, rfl⟩
      obtain ⟨ib, io, rfl, hids⟩ := HD8.out.ids.row.resolve_left (by omega)
      have hid := hids m (by omega)
      rw [hy] at hid
      have hsn : d.ids.reverse.take (k + 1) = d.ids.reverse.take k ++ [(⟨ya, yb, yc, yd⟩ : Ident)] := by rw [rev_snoc _ _ (by omega), show d.ids.length - 1 - k = m by omega, hy]
      have hsl : (d.ids.reverse.take (k + 1)).length = k + 1 := by rw [List.length_take, List.length_reverse]; omega
      clear hy hids
      have p0 := (XD8.out.below DD.out.kept).c0
      have HS : Hid (∀ W, (wz.alloc (.cells #[.slice none 0 0, .slice none 0 0] 50)).grownBy W (some wz.heap.size) → (fun W => W.cell? ⟨bd, 0, none⟩ = some (.slice (some ⟨ib, io, none⟩) n1 c1) ∧ W.cell? ⟨ib, io + m * 4, none⟩ = some (.string ya) ∧ W.cell? ⟨ib, io + m * 4 + 1, none⟩ = some (.string yb) ∧ W.cell? ⟨ib, io + m * 4 + 2, none⟩ = some (.string yc) ∧ W.cell? ⟨ib, io + m * 4 + 3, none⟩ = some (.string yd)) W) := Lib.hid (fun W h => by
        have hb := below_step (below1 wz (.cells #[.slice none 0 0, .slice none 0 0] 50)) h (Nat.le_refl _)
        have k := hid.below hb
        exact ⟨(XD8.out.below hb).c0, k.c0, k.c1, k.c2, k.c3⟩)
      have DX := Lib.hid (DD.out.below ((Below.refl wr.heap.size wr).drew))
      clear DD
      have DD := DX
      clear DX
      go_wp2_with fail
      refine wp_region_noPanic ?_
      refine wp_region_held_drew (S := (fun W => W.cell? ⟨bd, 0, none⟩ = some (.slice (some ⟨ib, io, none⟩) n1 c1) ∧ W.cell? ⟨ib, io + m * 4, none⟩ = some (.string ya) ∧ W.cell? ⟨ib, io + m * 4 + 1, none⟩ = some (.string yb) ∧ W.cell? ⟨ib, io + m * 4 + 2, none⟩ = some (.string yc) ∧ W.cell? ⟨ib, io + m * 4 + 3, none⟩ = some (.string yd))) (by kernel_rfl) ?_ (fun hHeld => ?_)
      · exact HS.out _ DD.out.gr
      generalize wr.drew = V0 at *
      refine wpAnyH_take (i := 0) (oi := _) (v := ?_) rfl (by kernel_rfl) (by kernel_rfl) (by kernel_rfl) (fun _ _ _ h => h) (Or.inl ⟨by rfl, ?_⟩) (by with_reducible assumption) ?_
      rotate_left
      · intro Wz hSw
        (try dsimp only at hSw)
        go_simp
        all_goals (with_reducible rfl)
      try simp only [Act.put, List.getElem_toArray, List.getElem_cons_zero, List.getElem_cons_succ, List.setIfInBounds_toArray, List.set_cons_zero, List.set_cons_succ]
      refine wpAnyH_take (i := 2) (oi := _) (v := ?_) rfl (by kernel_rfl) (by kernel_rfl) (by kernel_rfl) (fun _ _ _ h => h) (Or.inl ⟨by rfl, ?_⟩) (by with_reducible assumption) ?_
      rotate_left
      · intro Wz hSw
        (try dsimp only at hSw)
        go_simp
        all_goals (with_reducible rfl)
      try simp only [Act.put, List.getElem_toArray, List.getElem_cons_zero, List.getElem_cons_succ, List.setIfInBounds_toArray, List.set_cons_zero, List.set_cons_succ]
      refine wpAnyH_take (i := 3) (oi := _) (v := ?_) rfl (by kernel_rfl) (by kernel_rfl) (by kernel_rfl) (fun _ _ _ h => h) (Or.inl ⟨by rfl, ?_⟩) (by with_reducible assumption) ?_
      rotate_left
      · intro Wz hSw
        (try dsimp only at hSw)
        go_simp
        all_goals (with_reducible rfl)
      try simp only [Act.put, List.getElem_toArray, List.getElem_cons_zero, List.getElem_cons_succ, List.setIfInBounds_toArray, List.set_cons_zero, List.set_cons_succ]
      refine wpAnyH_take (i := 4) (oi := _) (v := ?_) rfl (by kernel_rfl) (by kernel_rfl) (by kernel_rfl) (fun _ _ _ h => h) (Or.inl ⟨by rfl, ?_⟩) (by with_reducible assumption) ?_
      rotate_left
      · intro Wz hSw
        (try dsimp only at hSw)
        go_simp
        all_goals (with_reducible rfl)
      try simp only [Act.put, List.getElem_toArray, List.getElem_cons_zero, List.getElem_cons_succ, List.setIfInBounds_toArray, List.set_cons_zero, List.set_cons_succ]
      refine wpAnyH_take (i := 5) (oi := _) (v := ?_) rfl (by kernel_rfl) (by kernel_rfl) (by kernel_rfl) (fun _ _ _ h => h) (Or.inl ⟨by rfl, ?_⟩) (by with_reducible assumption) ?_
      rotate_left
      · intro Wz hSw
        (try dsimp only at hSw)
        go_simp
        all_goals (with_reducible rfl)
      try simp only [Act.put, List.getElem_toArray, List.getElem_cons_zero, List.getElem_cons_succ, List.setIfInBounds_toArray, List.set_cons_zero, List.set_cons_succ]
      refine wpAnyH_take (i := 6) (oi := _) (v := ?_) rfl (by kernel_rfl) (by kernel_rfl) (by kernel_rfl) (fun _ _ _ h => h) (Or.inl ⟨by rfl, ?_⟩) (by with_reducible assumption) ?_
      rotate_left
      · intro Wz hSw
        (try dsimp only at hSw)
        go_simp
        all_goals (with_reducible rfl)
      try simp only [Act.put, List.getElem_toArray, List.getElem_cons_zero, List.getElem_cons_succ, List.setIfInBounds_toArray, List.set_cons_zero, List.set_cons_succ]
      refine wpAnyH_ready (rs := [1, 7]) (by kernel_rfl) (by simp) ?_
      refine AllReadyH.cons (o := _) rfl (fun K hK => ?_) (AllReadyH.cons (o := _) rfl (fun K hK => ?_) AllReadyH.nil)
      · have y1 := DD.out.box.c0
        go_simp
        refine hK.out _ _ ?_ (fun hHeld => ?_)
        · exact (by with_reducible assumption)
        clear hK K
        try simp only [Act.put, List.getElem_toArray, List.getElem_cons_zero, List.getElem_cons_succ, List.setIfInBounds_toArray, List.set_cons_zero, List.set_cons_succ]
        clear y1
        refine wpAnyH_ready (rs := [7]) (by kernel_rfl) (by simp) ?_
        refine AllReadyH.cons (o := _) rfl (fun K hK => ?_) AllReadyH.nil
        have DX := Lib.hid (DD.out.below (below1 V0 (.cells #[.string ya, .string yb, .string yc, .string yd] 54)))
        have hone := idNew V0 ya yb yc yd
        go_simp
        refine hK.out _ _ ?_ (fun hHeld => ?_)
        · exact HS.out _ DX.out.gr
        clear hK K
        try simp only [Act.put, List.getElem_toArray, List.getElem_cons_zero, List.getElem_cons_succ, List.setIfInBounds_toArray, List.set_cons_zero, List.set_cons_succ]
        generalize V0.heap.size = ob at hone ⊢
        generalize V0.alloc (.cells #[.string ya, .string yb, .string yc, .string yd] 54) = Vy at DX hone hHeld ⊢
        clear DD
        have DD := DX
        clear DX
        refine wpAnyH_ready (rs := [8]) (by kernel_rfl) (by simp) ?_
        refine AllReadyH.cons (o := _) rfl (fun K hK => ?_) AllReadyH.nil
        refine step_own_at (by rfl) _ _ 47 rfl 54 i0 _ 4 64 Tryz.underlying47 hi hz0 hz1 hz2 rfl (by decide) (wz.alloc (.cells #[.slice none 0 0, .slice none 0 0] 50)).heap.size _ k _ (by rfl) DD.out.o1 ⟨ob, 0, none⟩ 1 1 [.string ya, .string yb, .string yc, .string yd] (by rfl) rfl hone (by simp [Value.oneCell']) (by unfold maxLen; omega) (by omega) DD.out.gr.size ?_
        intro v' V7 hown hgr hat
        obtain ⟨a8, c8, rfl⟩ := owns_slice hown
        have g7 := DD.out.own hgr (fun g e => (DD.out.o1.lt g e).1)
        have y7 := g7.1.c0
        have f7 := g7.1.fz 0 (by decide)
        have D9 := Lib.hid (DD.out.setI hgr (l' := d.ids.reverse.take (k + 1)) (by rw [hsn, idFlat_snoc]; exact hown) hsl)
        refine hK.out _ _ ?_ (fun hHeld => ?_)
        · exact HS.out _ g7.2
        clear hK K
        try simp only [Act.put, List.getElem_toArray, List.getElem_cons_zero, List.getElem_cons_succ, List.setIfInBounds_toArray, List.set_cons_zero, List.set_cons_succ]
        refine wpAnyH_take (i := 9) (oi := _) (v := ?_) rfl (by kernel_rfl) (by kernel_rfl) (by kernel_rfl) (fun _ _ _ h => h) (Or.inl ⟨by rfl, ?_⟩) (by with_reducible assumption) ?_
        rotate_left
        · intro Wz hSw
          (try dsimp only at hSw)
          go_simp
          all_goals (with_reducible rfl)
        try simp only [Act.put, List.getElem_toArray, List.getElem_cons_zero, List.getElem_cons_succ, List.setIfInBounds_toArray, List.set_cons_zero, List.set_cons_succ]
        refine wpAnyH_ready (rs := [10]) (by kernel_rfl) (by simp) ?_
        refine AllReadyH.cons (o := _) rfl (fun K hK => ?_) AllReadyH.nil
        go_simp
        refine hK.out _ _ ?_ (fun hHeld => ?_)
        · exact HS.out _ D9.out.gr
        clear hK K
        try simp only [Act.put, List.getElem_toArray, List.getElem_cons_zero, List.getElem_cons_succ, List.setIfInBounds_toArray, List.set_cons_zero, List.set_cons_succ]
        refine wpAnyH_done (by kernel_rfl) ?_ _
        refine NoPanic.normal ?_
        clear hown hgr hat y7 f7 DD hone
        go_wp2
        go_roundw
        case rel => exact ⟨m, k + 1, a8, c8, by first | rfl | go_num, by omega, D9⟩
        case measure => first | (simp [intOf]; done) | (simp [intOf]; omega)
      · have DX := Lib.hid (DD.out.below (below1 V0 (.cells #[.string ya, .string yb, .string yc, .string yd] 54)))
        have hone := idNew V0 ya yb yc yd
        go_simp
        refine hK.out _ _ ?_ (fun hHeld => ?_)
        · exact HS.out _ DX.out.gr
        clear hK K
        try simp only [Act.put, List.getElem_toArray, List.getElem_cons_zero, List.getElem_cons_succ, List.setIfInBounds_toArray, List.set_cons_zero, List.set_cons_succ]
        generalize V0.heap.size = ob at hone ⊢
        generalize V0.alloc (.cells #[.string ya, .string yb, .string yc, .string yd] 54) = Vy at DX hone hHeld ⊢
        clear DD
        have DD := DX
        clear DX
        refine wpAnyH_ready (rs := [1]) (by kernel_rfl) (by simp) ?_
        refine AllReadyH.cons (o := _) rfl (fun K hK => ?_) AllReadyH.nil
        have y1 := DD.out.box.c0
        go_simp
        refine hK.out _ _ ?_ (fun hHeld => ?_)
        · exact (by with_reducible assumption)
        clear hK K
        try simp only [Act.put, List.getElem_toArray, List.getElem_cons_zero, List.getElem_cons_succ, List.setIfInBounds_toArray, List.set_cons_zero, List.set_cons_succ]
        clear y1
        refine wpAnyH_ready (rs := [8]) (by kernel_rfl) (by simp) ?_
        refine AllReadyH.cons (o := _) rfl (fun K hK => ?_) AllReadyH.nil
        refine step_own_at (by rfl) _ _ 47 rfl 54 i0 _ 4 64 Tryz.underlying47 hi hz0 hz1 hz2 rfl (by decide) (wz.alloc (.cells #[.slice none 0 0, .slice none 0 0] 50)).heap.size _ k _ (by rfl) DD.out.o1 ⟨ob, 0, none⟩ 1 1 [.string ya, .string yb, .string yc, .string yd] (by rfl) rfl hone (by simp [Value.oneCell']) (by unfold maxLen; omega) (by omega) DD.out.gr.size ?_
        intro v' V7 hown hgr hat
        obtain ⟨a8, c8, rfl⟩ := owns_slice hown
        have g7 := DD.out.own hgr (fun g e => (DD.out.o1.lt g e).1)
        have y7 := g7.1.c0
        have f7 := g7.1.fz 0 (by decide)
        have D9 := Lib.hid (DD.out.setI hgr (l' := d.ids.reverse.take (k + 1)) (by rw [hsn, idFlat_snoc]; exact hown) hsl)
        refine hK.out _ _ ?_ (fun hHeld => ?_)
        · exact HS.out _ g7.2
        clear hK K
        try simp only [Act.put, List.getElem_toArray, List.getElem_cons_zero, List.getElem_cons_succ, List.setIfInBounds_toArray, List.set_cons_zero, List.set_cons_succ]
        refine wpAnyH_take (i := 9) (oi := _) (v := ?_) rfl (by kernel_rfl) (by kernel_rfl) (by kernel_rfl) (fun _ _ _ h => h) (Or.inl ⟨by rfl, ?_⟩) (by with_reducible assumption) ?_
        rotate_left
        · intro Wz hSw
          (try dsimp only at hSw)
          go_simp
          all_goals (with_reducible rfl)
        try simp only [Act.put, List.getElem_toArray, List.getElem_cons_zero, List.getElem_cons_succ, List.setIfInBounds_toArray, List.set_cons_zero, List.set_cons_succ]
        refine wpAnyH_ready (rs := [10]) (by kernel_rfl) (by simp) ?_
        refine AllReadyH.cons (o := _) rfl (fun K hK => ?_) AllReadyH.nil
        go_simp
        refine hK.out _ _ ?_ (fun hHeld => ?_)
        · exact HS.out _ D9.out.gr
        clear hK K
        try simp only [Act.put, List.getElem_toArray, List.getElem_cons_zero, List.getElem_cons_succ, List.setIfInBounds_toArray, List.set_cons_zero, List.set_cons_succ]
        refine wpAnyH_done (by kernel_rfl) ?_ _
        refine NoPanic.normal ?_
        clear hown hgr hat y7 f7 DD hone
        go_wp2
        go_roundw
        case rel => exact ⟨m, k + 1, a8, c8, by first | rfl | go_num, by omega, D9⟩
        case measure => first | (simp [intOf]; done) | (simp [intOf]; omega)
    case zero =>
      obtain ⟨wo, hwo⟩ : ∃ wo, wo = wr := ⟨_, rfl⟩
      subst hwo
      obtain rfl : n1 = k := by omega
      have e0 : ((0 : Nat) : Int) - 1 = -1 := rfl
      rw [e0]
      rw [show d.ids.reverse.take n1 = d.ids.reverse from List.take_of_length_le (by rw [List.length_reverse]; omega)] at DD
      clear e0 q1
      have BK := DD.out.kept
      have B9 := Lib.hid (below_then B8.out BK)
      have XD9 := Lib.hid (XD8.out.below BK)
      have XS9 := Lib.hid (XS8.out.below BK)
      have XC9 := Lib.hid (XC8.out.below BK)
      have p1 := XD9.out.c1
      have l0 := XD9.out.lt
      have q3 : IntKind.i64.wrap ((n2 : Int) + 1) = ((n2 + 1 : Nat) : Int) := by rw [IntWalk.i64_in _ (by omega)]; rfl
      have KL := lwAt2_any a n c xs (n2 + 1) (by omega) (by omega) wo (HC.out.below (below_then B2.out B9.out))
      unfold AtRes at KL
      clear BK
      go_wp2_with fail
      refine KL.mono ?_
      clear KL p1 l0
      rintro e w9 ⟨z, rfl, hz, nd, rfl⟩
      have bn := below_drewN (Below.refl wo.heap.size wo) nd
      have DN := Lib.hid (DD.out.below bn)
      have XDN := Lib.hid (XD9.out.below bn)
      have XSN := Lib.hid (XS9.out.below bn)
      have XCN := Lib.hid (XC9.out.below bn)
      have BN := Lib.hid (below_then B9.out bn)
      clear bn DD XD9 XS9 XC9 B9
      generalize wo.drewN nd = w9 at *
      have HS2 : Hid (∀ W, Below w9.heap.size w9 W → W.cell? ⟨bd, 1, none⟩ = some (.slice a2 n2 c2)) := Lib.hid (fun W h => (XDN.out.below h).c1)
      have p1 := XDN.out.c1
      have l0 := XDN.out.lt
      have HFT := Lib.hid (HD.out.feats.below BN.out)
      have hcap2 := HCAP.out.2
      have hz1' : z ≤ n2 := by omega
      have hz2' : (z : Int) ≤ (n2 : Int) := by omega
      have hown1 : (w9.drew.alloc (.cells #[] 9)).ownsRow w9.heap.size 9 1 (.slice (some ⟨w9.drew.heap.size, 0, none⟩) 0 0) 0 [] := by
        have := World.ownsRow_lit (base := w9.heap.size) (e := 9) (size := 1) w9.drew #[] 0 (Nat.le_refl _) (by unfold maxLen; omega) rfl
        simpa using this
      have B1 : Below w9.heap.size w9 (w9.drew.alloc (.cells #[] 9)) := below_then ((Below.refl w9.heap.size w9).drew) (below1 w9.drew _)
      have hcD : ∀ W, Below w9.heap.size w9 W → ∀ ad, a2 = some ad → ∀ j u, ((d.feats.drop z).map Value.string)[j]? = some u → W.cell? ((ad.add z).add j) = some u := fun W h ad e => sts_cells (HFT.out.below h) z ad e
      have hcT : ∀ W, Below w9.heap.size w9 W → ∀ ad, a2 = some ad → ∀ j u, ((d.feats.take z).map Value.string)[j]? = some u → W.cell? (ad.add j) = some u := fun W h ad e => sts_take (HFT.out.below h) z ad e
      have hlD : ((d.feats.drop z).map Value.string).length = n2 - z := by rw [List.length_map, List.length_drop, hl2]
      have hlT : ((d.feats.take z).map Value.string).length = z := by rw [List.length_map, List.length_take, hl2]; omega
      have HH := Lib.hid (And.intro hown1 (And.intro B1 (And.intro hcD (And.intro hcT hcap2))))
      clear hown1 B1 hcD hcT hcap2
      rcases Nat.eq_zero_or_pos c2 with h2 | h2
      · obtain ⟨hown1, B1, hcD, hcT, hcap2⟩ := HH.out
        obtain ⟨hc1, hc2, hc3⟩ := hcap2
        obtain rfl : z = 0 := by omega
        subst h2
        obtain rfl : n2 = 0 := by omega
        go_wp2_with fail
        refine wp_region_noPanic ?_
        refine wp_region_held_drew (S := (fun W => W.cell? ⟨bd, 1, none⟩ = some (.slice a2 0 0))) (by kernel_rfl) ?_ (fun hHeld => ?_)
        · exact HS2.out _ ((Below.refl w9.heap.size w9).drew)
        refine wpAnyH_take (i := 1) (oi := _) (v := ?_) rfl (by kernel_rfl) (by kernel_rfl) (by kernel_rfl) (fun _ _ _ h => h) (Or.inl ⟨by rfl, ?_⟩) (by with_reducible assumption) ?_
        rotate_left
        · intro Wz hSw
          (try dsimp only at hSw)
          go_simp
          all_goals (with_reducible rfl)
        try simp only [Act.put, List.getElem_toArray, List.getElem_cons_zero, List.getElem_cons_succ, List.setIfInBounds_toArray, List.set_cons_zero, List.set_cons_succ]
        refine wpAnyH_take (i := 2) (oi := _) (v := ?_) rfl (by kernel_rfl) (by kernel_rfl) (by kernel_rfl) (fun _ _ _ h => h) (Or.inl ⟨by rfl, ?_⟩) (by with_reducible assumption) ?_
        rotate_left
        · intro Wz hSw
          (try dsimp only at hSw)
          go_simp
          all_goals (with_reducible rfl)
        try simp only [Act.put, List.getElem_toArray, List.getElem_cons_zero, List.getElem_cons_succ, List.setIfInBounds_toArray, List.set_cons_zero, List.set_cons_succ]
        refine wpAnyH_take (i := 3) (oi := _) (v := ?_) rfl (by kernel_rfl) (by kernel_rfl) (by kernel_rfl) (fun _ _ _ h => h) (Or.inl ⟨by rfl, ?_⟩) (by with_reducible assumption) ?_
        rotate_left
        · intro Wz hSw
          (try dsimp only at hSw)
          go_simp
          all_goals (with_reducible rfl)
        try simp only [Act.put, List.getElem_toArray, List.getElem_cons_zero, List.getElem_cons_succ, List.setIfInBounds_toArray, List.set_cons_zero, List.set_cons_succ]
        refine wpAnyH_take (i := 4) (oi := _) (v := ?_) rfl (by kernel_rfl) (by kernel_rfl) (by kernel_rfl) (fun _ _ _ h => h) (Or.inl ⟨by rfl, ?_⟩) (by with_reducible assumption) ?_
        rotate_left
        · intro Wz hSw
          (try dsimp only at hSw)
          go_simp
          all_goals (with_reducible rfl)
        try simp only [Act.put, List.getElem_toArray, List.getElem_cons_zero, List.getElem_cons_succ, List.setIfInBounds_toArray, List.set_cons_zero, List.set_cons_succ]
        refine wpAnyH_take (i := 6) (oi := _) (v := ?_) rfl (by kernel_rfl) (by kernel_rfl) (by kernel_rfl) (fun _ _ _ h => h) (Or.inl ⟨by rfl, ?_⟩) (by with_reducible assumption) ?_
        rotate_left
        · intro Wz hSw
          (try dsimp only at hSw)
          go_simp
          all_goals (with_reducible rfl)
        try simp only [Act.put, List.getElem_toArray, List.getElem_cons_zero, List.getElem_cons_succ, List.setIfInBounds_toArray, List.set_cons_zero, List.set_cons_succ]
        refine wpAnyH_take (i := 7) (oi := _) (v := ?_) rfl (by kernel_rfl) (by kernel_rfl) (by kernel_rfl) (fun _ _ _ h => h) (Or.inl ⟨by rfl, ?_⟩) (by with_reducible assumption) ?_
        rotate_left
        · intro Wz hSw
          (try dsimp only at hSw)
          go_simp
          all_goals (with_reducible rfl)
        try simp only [Act.put, List.getElem_toArray, List.getElem_cons_zero, List.getElem_cons_succ, List.setIfInBounds_toArray, List.set_cons_zero, List.set_cons_succ]
        refine wpAnyH_take (i := 8) (oi := _) (v := ?_) rfl (by kernel_rfl) (by kernel_rfl) (by kernel_rfl) (fun _ _ _ h => h) (Or.inl ⟨by rfl, ?_⟩) (by with_reducible assumption) ?_
        rotate_left
        · intro Wz hSw
          (try dsimp only at hSw)
          go_simp
          all_goals (with_reducible rfl)
        try simp only [Act.put, List.getElem_toArray, List.getElem_cons_zero, List.getElem_cons_succ, List.setIfInBounds_toArray, List.set_cons_zero, List.set_cons_succ]
        refine wpAnyH_take (i := 9) (oi := _) (v := ?_) rfl (by kernel_rfl) (by kernel_rfl) (by kernel_rfl) (fun _ _ _ h => h) (Or.inl ⟨by rfl, ?_⟩) (by with_reducible assumption) ?_
        rotate_left
        · intro Wz hSw
          (try dsimp only at hSw)
          go_simp
          all_goals (with_reducible rfl)
        try simp only [Act.put, List.getElem_toArray, List.getElem_cons_zero, List.getElem_cons_succ, List.setIfInBounds_toArray, List.set_cons_zero, List.set_cons_succ]
        refine wpAnyH_ready (rs := [0]) (by kernel_rfl) (by simp) ?_
        refine AllReadyH.cons (o := _) rfl (fun K hK => ?_) AllReadyH.nil
        go_simp
        refine hK.out _ _ ?_ (fun hHeld => ?_)
        · exact HS2.out _ B1
        clear hK K
        try simp only [Act.put, List.getElem_toArray, List.getElem_cons_zero, List.getElem_cons_succ, List.setIfInBounds_toArray, List.set_cons_zero, List.set_cons_succ]
        refine wpAnyH_ready (rs := [5]) (by kernel_rfl) (by simp) ?_
        refine AllReadyH.cons (o := _) rfl (fun K hK => ?_) AllReadyH.nil
        refine step_own_any (by rfl) _ _ 48 rfl 9 j0 (.string ByteArray.empty) 1 16 Tryz.underlying48 hj hjz0 hjz1 hjz2 rfl (by decide) w9.heap.size _ 0 _ (by rfl) hown1 (a2) (0) (0) ((d.feats.drop 0).map Value.string) (by rfl) (fun _ => ⟨rfl, rfl⟩) (by first | (rw [hlD]; omega) | rw [hlD]) (fun ad' e j u hj => by rw [List.getElem?_eq_none (by rw [hlD]; omega)] at hj; cases hj) (strs_one _) (by unfold maxLen; omega) (by omega) B1.size ?_
        intro v2 V2 hown2 hgr2 hat2
        have B2' := B1.grown hgr2 B1.size (fun j hj => (hown1.lt j hj).1)
        refine hK.out _ _ ?_ (fun hHeld => ?_)
        · exact HS2.out _ B2'
        clear hK K
        try simp only [Act.put, List.getElem_toArray, List.getElem_cons_zero, List.getElem_cons_succ, List.setIfInBounds_toArray, List.set_cons_zero, List.set_cons_succ]
        refine wpAnyH_ready (rs := [10]) (by kernel_rfl) (by simp) ?_
        refine AllReadyH.cons (o := _) rfl (fun K hK => ?_) AllReadyH.nil
        refine step_own_any (by rfl) _ _ 48 rfl 9 j0 (.string ByteArray.empty) 1 16 Tryz.underlying48 hj hjz0 hjz1 hjz2 rfl (by decide) w9.heap.size _ _ _ (by rfl) hown2 (a2) (0) (0) ((d.feats.take 0).map Value.string) (by rfl) (fun _ => ⟨rfl, rfl⟩) (by first | (rw [hlT]; omega) | rw [hlT]) (fun ad' e j u hj => by rw [List.getElem?_eq_none (by rw [hlT]; omega)] at hj; cases hj) (strs_one _) (by unfold maxLen; omega) (by omega) B2'.size ?_
        intro v3 V3 hown3 hgr3 hat3
        have B3' := B2'.grown hgr3 B2'.size (fun j hj => (hown2.lt j hj).1)
        obtain ⟨a9, c9, rfl⟩ := owns_slice hown3
        have hN : 0 + (0) + (0) = 0 := by omega
        rw [hN] at hown3 ⊢
        have D9 := Lib.hid (DN.out.setT B3' (ts' := d.feats.drop 0 ++ d.feats.take 0) (owns_mono (by rw [List.map_append]; simpa using hown3) DN.out.gr.size) (by rw [List.length_append, List.length_drop, List.length_take]; omega))
        have z9 := (DN.out.below B3').box
        have y9 := z9.c1
        have f9 := z9.fz 1 (by decide)
        refine hK.out _ _ ?_ (fun hHeld => ?_)
        · exact HS2.out _ B3'
        clear hK K
        try simp only [Act.put, List.getElem_toArray, List.getElem_cons_zero, List.getElem_cons_succ, List.setIfInBounds_toArray, List.set_cons_zero, List.set_cons_succ]
        refine wpAnyH_take (i := 11) (oi := _) (v := ?_) rfl (by kernel_rfl) (by kernel_rfl) (by kernel_rfl) (fun _ _ _ h => h) (Or.inl ⟨by rfl, ?_⟩) (by with_reducible assumption) ?_
        rotate_left
        · intro Wz hSw
          (try dsimp only at hSw)
          go_simp
          all_goals (with_reducible rfl)
        try simp only [Act.put, List.getElem_toArray, List.getElem_cons_zero, List.getElem_cons_succ, List.setIfInBounds_toArray, List.set_cons_zero, List.set_cons_succ]
        refine wpAnyH_ready (rs := [12]) (by kernel_rfl) (by simp) ?_
        refine AllReadyH.cons (o := _) rfl (fun K hK => ?_) AllReadyH.nil
        go_simp
        refine hK.out _ _ ?_ (fun hHeld => ?_)
        · exact (XD8.out.below D9.out.kept).c1
        clear hK K
        try simp only [Act.put, List.getElem_toArray, List.getElem_cons_zero, List.getElem_cons_succ, List.setIfInBounds_toArray, List.set_cons_zero, List.set_cons_succ]
        refine wpAnyH_done (by kernel_rfl) ?_ _
        refine NoPanic.normal ?_
        have BF := Lib.hid D9.out
        generalize hw10 : World.setCell V3 ⟨wz.heap.size, 1, none⟩ (.slice a9 0 c9) = w10 at BF ⊢
        clear hw10 hown1 hown2 hown3 hgr2 hgr3 hat2 hat3 z9 y9 f9 D9 hHeld B1 B2' B3' hcD hcT HH HS2 DN XDN XSN XCN HFT p1 l0
        have BK := BF.out.kept
        have XDe := Lib.hid (XD8.out.below BK)
        have XSe := Lib.hid (XS8.out.below BK)
        have XCe := Lib.hid (XC8.out.below BK)
        have XBe := Lib.hid BF.out.box
        have HDB : Hid (DisAt w10 aa n1 ca a9 0 c9 (turned d 0)) := Lib.hid (BF.out.dis (by omega) (by omega))
        have HCB := Lib.hid BF.out.cap
        have BE := Lib.hid (below_then B8.out BK)
        have KJ1 := Lib.hid (fun W (h : Below w10.heap.size w10 W) => KT1.out 0 W aa a9 ca c9 HCB.out (HT2.out W (below_then BE.out h)) (HDB.out.below h))
        have KJ2 := Lib.hid (fun W (h : Below w10.heap.size w10 W) => KT2.out 0 W aa a9 ca c9 HCB.out (HT2.out W (below_then BE.out h)) (HDB.out.below h))
        have p3 := XSe.out.c1
        have l1 := XSe.out.lt
        clear BK KT1 KT2 XD8 XS8 XC8 HD8 BF HDB HCB
        generalize wz.heap.size = bk at XBe ⊢
        go_wp2
        go_loopw [10, 11] (fun mk iv wr => ∃ k : Nat, iv = .int .i64 k ∧ k ≤ ct.size ∧ mk = .int .i64 ((marksTo ct.data.toList k : Nat) : Int) ∧ ∃ nd, wr = w10.drewN nd) (fun _ iv _ => ct.size - (intOf iv).toNat)
        case atStart => exact ⟨0, rfl, Nat.zero_le _, by simp [marksTo], 0, rfl⟩
        case round =>
          obtain ⟨k, rfl, hk, rfl, nd, rfl⟩ := hrel
          by_cases hlt : k < ct.size
          · have hmn := marks_next ct k hlt
            have hml := marks_le ct.data.toList k
            generalize marksTo ct.data.toList k = mm at hmn hml ⊢
            cases hc : ((ct[k].toNat : Int) == 60)
            · have hmn : marksTo ct.data.toList (k + 1) = mm := by rw [hmn, hc]; rfl
              go_wp2
              go_roundw
              case rel => exact ⟨k + 1, by go_num, by omega, by rw [hmn], _, rfl⟩
              case measure => simp [intOf]; omega
            · have hmn : marksTo ct.data.toList (k + 1) = mm + 1 := by rw [hmn, hc]; rfl
              go_wp2
              go_roundw
              case rel => exact ⟨k + 1, by go_num, by omega, by rw [hmn]; go_num, _, rfl⟩
              case measure => simp [intOf]; omega
          · obtain rfl : k = ct.size := by omega
            have hmm : ((marksTo ct.data.toList ct.size : Nat) : Int) = (n1 : Int) + ((0 : Nat) : Int) := by rw [marks_all, HMK.out]; rfl
            rw [hmm]
            have q4 : IntKind.i64.wrap ((n1 : Int) + ((0 : Nat) : Int)) = (n1 : Int) + ((0 : Nat) : Int) := IntWalk.i64_in _ (by omega)
            have q5 : IntKind.i64.wrap (n1 : Int) = (n1 : Int) := IntWalk.i64_in _ (by omega)
            have bn := below_drewN (Below.refl w10.heap.size w10) nd
            clear p3 l1 hmm
            have XDf := XDe.out.below bn
            have XSf := XSe.out.below bn
            have XCf := XCe.out.below bn
            have XBf := XBe.out.below bn
            generalize w10.drewN nd = w11 at *
            have l0 := XDf.lt
            have l1 := XSf.lt
            have l2 := XCf.lt
            have l3 := XBf.lt
            have p0 := XDf.c0
            have p1 := XDf.c1
            have p2 := XSf.c0
            have p3 := XSf.c1
            have p4 := XCf.c0
            have p5 := XCf.c1
            have p6 := XBf.c0
            have p7 := XBf.c1
            clear XDf XSf XCf XBf XDe XSe XCe XBe
            have nt1 := fun W => eqText2 0 ct W
            have nt2 := fun W => eqText2 0 cn W
            go_wp2_with fail
            have hS0 : Below w10.heap.size w10 w11.drew ∧ w11.drew.cell? ⟨bd, 0, none⟩ = some (.slice a1 n1 c1) ∧ w11.drew.cell? ⟨bd, 1, none⟩ = some (.slice a2 0 0) ∧ w11.drew.cell? ⟨bs, 0, none⟩ = some (.int .i64 0) ∧ w11.drew.cell? ⟨bs, 1, none⟩ = some (.string ct) ∧ w11.drew.cell? ⟨bc, 0, none⟩ = some (.int .i64 0) ∧ w11.drew.cell? ⟨bc, 1, none⟩ = some (.string cn) ∧ w11.drew.cell? ⟨bk, 0, none⟩ = some (.slice aa n1 ca) ∧ w11.drew.cell? ⟨bk, 1, none⟩ = some (.slice a9 0 c9) := ⟨bn.drew, p0, p1, p2, p3, p4, p5, p6, p7⟩
            (go_region_held3 (fun W => Below w10.heap.size w10 W ∧ W.cell? ⟨bd, 0, none⟩ = some (.slice a1 n1 c1) ∧ W.cell? ⟨bd, 1, none⟩ = some (.slice a2 0 0) ∧ W.cell? ⟨bs, 0, none⟩ = some (.int .i64 0) ∧ W.cell? ⟨bs, 1, none⟩ = some (.string ct) ∧ W.cell? ⟨bc, 0, none⟩ = some (.int .i64 0) ∧ W.cell? ⟨bc, 1, none⟩ = some (.string cn) ∧ W.cell? ⟨bk, 0, none⟩ = some (.slice aa n1 ca) ∧ W.cell? ⟨bk, 1, none⟩ = some (.slice a9 0 c9)) (first | assumption | exact held8 hbr (by assumption))
              (first
                | (go_at_call 40; refine (KJ1.out _ (And.left (by assumption))).mono ?_; rintro e wa ⟨rfl, hbr⟩)
                | (go_at_call 41; refine (KJ2.out _ (And.left (by assumption))).mono ?_; rintro e we ⟨rfl, hbr⟩)))
            have hB12 : Below w10.heap.size w10 we := And.left (by assumption)
            go_wp2
            go_ret
            exact ⟨rfl, below_then B2.out (below_then BE.out hB12)⟩
      · obtain ⟨ad, rfl⟩ : ∃ ad, a2 = some ad := by
          cases a2 with
          | none => have := HH.out.2.2.2.2.2.2 rfl; omega
          | some ad => exact ⟨ad, rfl⟩
        by_cases h3 : c2 = z
        · obtain ⟨hown1, B1, hcD, hcT, hcap2⟩ := HH.out
          obtain ⟨hc1, hc2, hc3⟩ := hcap2
          subst h3
          obtain rfl : n2 = c2 := by omega
          go_wp2_with fail
          refine wp_region_noPanic ?_
          refine wp_region_held_drew (S := (fun W => W.cell? ⟨bd, 1, none⟩ = some (.slice (some ad) n2 n2))) (by kernel_rfl) ?_ (fun hHeld => ?_)
          · exact HS2.out _ ((Below.refl w9.heap.size w9).drew)
          refine wpAnyH_take (i := 1) (oi := _) (v := ?_) rfl (by kernel_rfl) (by kernel_rfl) (by kernel_rfl) (fun _ _ _ h => h) (Or.inl ⟨by rfl, ?_⟩) (by with_reducible assumption) ?_
          rotate_left
          · intro Wz hSw
            (try dsimp only at hSw)
            go_simp
            all_goals (with_reducible rfl)
          try simp only [Act.put, List.getElem_toArray, List.getElem_cons_zero, List.getElem_cons_succ, List.setIfInBounds_toArray, List.set_cons_zero, List.set_cons_succ]
          refine wpAnyH_take (i := 2) (oi := _) (v := ?_) rfl (by kernel_rfl) (by kernel_rfl) (by kernel_rfl) (fun _ _ _ h => h) (Or.inl ⟨by rfl, ?_⟩) (by with_reducible assumption) ?_
          rotate_left
          · intro Wz hSw
            (try dsimp only at hSw)
            go_simp
            all_goals (with_reducible rfl)
          try simp only [Act.put, List.getElem_toArray, List.getElem_cons_zero, List.getElem_cons_succ, List.setIfInBounds_toArray, List.set_cons_zero, List.set_cons_succ]
          refine wpAnyH_take (i := 3) (oi := _) (v := ?_) rfl (by kernel_rfl) (by kernel_rfl) (by kernel_rfl) (fun _ _ _ h => h) (Or.inl ⟨by rfl, ?_⟩) (by with_reducible assumption) ?_
          rotate_left
          · intro Wz hSw
            (try dsimp only at hSw)
            go_simp
            all_goals (with_reducible rfl)
          try simp only [Act.put, List.getElem_toArray, List.getElem_cons_zero, List.getElem_cons_succ, List.setIfInBounds_toArray, List.set_cons_zero, List.set_cons_succ]
          refine wpAnyH_take (i := 4) (oi := _) (v := ?_) rfl (by kernel_rfl) (by kernel_rfl) (by kernel_rfl) (fun _ _ _ h => h) (Or.inl ⟨by rfl, ?_⟩) (by with_reducible assumption) ?_
          rotate_left
          · intro Wz hSw
            (try dsimp only at hSw)
            go_simp
            all_goals (with_reducible rfl)
          try simp only [Act.put, List.getElem_toArray, List.getElem_cons_zero, List.getElem_cons_succ, List.setIfInBounds_toArray, List.set_cons_zero, List.set_cons_succ]
          refine wpAnyH_take (i := 6) (oi := _) (v := ?_) rfl (by kernel_rfl) (by kernel_rfl) (by kernel_rfl) (fun _ _ _ h => h) (Or.inl ⟨by rfl, ?_⟩) (by with_reducible assumption) ?_
          rotate_left
          · intro Wz hSw
            (try dsimp only at hSw)
            go_simp
            all_goals (with_reducible rfl)
          try simp only [Act.put, List.getElem_toArray, List.getElem_cons_zero, List.getElem_cons_succ, List.setIfInBounds_toArray, List.set_cons_zero, List.set_cons_succ]
          refine wpAnyH_take (i := 7) (oi := _) (v := ?_) rfl (by kernel_rfl) (by kernel_rfl) (by kernel_rfl) (fun _ _ _ h => h) (Or.inl ⟨by rfl, ?_⟩) (by with_reducible assumption) ?_
          rotate_left
          · intro Wz hSw
            (try dsimp only at hSw)
            go_simp
            all_goals (with_reducible rfl)
          try simp only [Act.put, List.getElem_toArray, List.getElem_cons_zero, List.getElem_cons_succ, List.setIfInBounds_toArray, List.set_cons_zero, List.set_cons_succ]
          refine wpAnyH_take (i := 8) (oi := _) (v := ?_) rfl (by kernel_rfl) (by kernel_rfl) (by kernel_rfl) (fun _ _ _ h => h) (Or.inl ⟨by rfl, ?_⟩) (by with_reducible assumption) ?_
          rotate_left
          · intro Wz hSw
            (try dsimp only at hSw)
            go_simp
            all_goals (with_reducible rfl)
          try simp only [Act.put, List.getElem_toArray, List.getElem_cons_zero, List.getElem_cons_succ, List.setIfInBounds_toArray, List.set_cons_zero, List.set_cons_succ]
          refine wpAnyH_take (i := 9) (oi := _) (v := ?_) rfl (by kernel_rfl) (by kernel_rfl) (by kernel_rfl) (fun _ _ _ h => h) (Or.inl ⟨by rfl, ?_⟩) (by with_reducible assumption) ?_
          rotate_left
          · intro Wz hSw
            (try dsimp only at hSw)
            go_simp
            all_goals (with_reducible rfl)
          try simp only [Act.put, List.getElem_toArray, List.getElem_cons_zero, List.getElem_cons_succ, List.setIfInBounds_toArray, List.set_cons_zero, List.set_cons_succ]
          refine wpAnyH_ready (rs := [0]) (by kernel_rfl) (by simp) ?_
          refine AllReadyH.cons (o := _) rfl (fun K hK => ?_) AllReadyH.nil
          go_simp
          refine hK.out _ _ ?_ (fun hHeld => ?_)
          · exact HS2.out _ B1
          clear hK K
          try simp only [Act.put, List.getElem_toArray, List.getElem_cons_zero, List.getElem_cons_succ, List.setIfInBounds_toArray, List.set_cons_zero, List.set_cons_succ]
          refine wpAnyH_ready (rs := [5]) (by kernel_rfl) (by simp) ?_
          refine AllReadyH.cons (o := _) rfl (fun K hK => ?_) AllReadyH.nil
          refine step_own_any (by rfl) _ _ 48 rfl 9 j0 (.string ByteArray.empty) 1 16 Tryz.underlying48 hj hjz0 hjz1 hjz2 rfl (by decide) w9.heap.size _ 0 _ (by rfl) hown1 (some ad) (0) (0) ((d.feats.drop n2).map Value.string) (by rfl) (fun e => by cases e) (by first | (rw [hlD]; omega) | rw [hlD]) (fun ad' e j u hj => by rw [List.getElem?_eq_none (by rw [hlD]; omega)] at hj; cases hj) (strs_one _) (by unfold maxLen; omega) (by omega) B1.size ?_
          intro v2 V2 hown2 hgr2 hat2
          have B2' := B1.grown hgr2 B1.size (fun j hj => (hown1.lt j hj).1)
          refine hK.out _ _ ?_ (fun hHeld => ?_)
          · exact HS2.out _ B2'
          clear hK K
          try simp only [Act.put, List.getElem_toArray, List.getElem_cons_zero, List.getElem_cons_succ, List.setIfInBounds_toArray, List.set_cons_zero, List.set_cons_succ]
          refine wpAnyH_ready (rs := [10]) (by kernel_rfl) (by simp) ?_
          refine AllReadyH.cons (o := _) rfl (fun K hK => ?_) AllReadyH.nil
          refine step_own_any (by rfl) _ _ 48 rfl 9 j0 (.string ByteArray.empty) 1 16 Tryz.underlying48 hj hjz0 hjz1 hjz2 rfl (by decide) w9.heap.size _ _ _ (by rfl) hown2 (some ad) (n2) (n2) ((d.feats.take n2).map Value.string) (by rfl) (fun e => by cases e) (by first | (rw [hlT]; omega) | rw [hlT]) (fun ad' e => hcT _ B2' ad' e) (strs_one _) (by unfold maxLen; omega) (by omega) B2'.size ?_
          intro v3 V3 hown3 hgr3 hat3
          have B3' := B2'.grown hgr3 B2'.size (fun j hj => (hown2.lt j hj).1)
          obtain ⟨a9, c9, rfl⟩ := owns_slice hown3
          have hN : 0 + (0) + (n2) = n2 := by omega
          rw [hN] at hown3 ⊢
          have D9 := Lib.hid (DN.out.setT B3' (ts' := d.feats.drop n2 ++ d.feats.take n2) (owns_mono (by rw [List.map_append]; simpa using hown3) DN.out.gr.size) (by rw [List.length_append, List.length_drop, List.length_take]; omega))
          have z9 := (DN.out.below B3').box
          have y9 := z9.c1
          have f9 := z9.fz 1 (by decide)
          refine hK.out _ _ ?_ (fun hHeld => ?_)
          · exact HS2.out _ B3'
          clear hK K
          try simp only [Act.put, List.getElem_toArray, List.getElem_cons_zero, List.getElem_cons_succ, List.setIfInBounds_toArray, List.set_cons_zero, List.set_cons_succ]
          refine wpAnyH_take (i := 11) (oi := _) (v := ?_) rfl (by kernel_rfl) (by kernel_rfl) (by kernel_rfl) (fun _ _ _ h => h) (Or.inl ⟨by rfl, ?_⟩) (by with_reducible assumption) ?_
          rotate_left
          · intro Wz hSw
            (try dsimp only at hSw)
            go_simp
            all_goals (with_reducible rfl)
          try simp only [Act.put, List.getElem_toArray, List.getElem_cons_zero, List.getElem_cons_succ, List.setIfInBounds_toArray, List.set_cons_zero, List.set_cons_succ]
          refine wpAnyH_ready (rs := [12]) (by kernel_rfl) (by simp) ?_
          refine AllReadyH.cons (o := _) rfl (fun K hK => ?_) AllReadyH.nil
          go_simp
          refine hK.out _ _ ?_ (fun hHeld => ?_)
          · exact (XD8.out.below D9.out.kept).c1
          clear hK K
          try simp only [Act.put, List.getElem_toArray, List.getElem_cons_zero, List.getElem_cons_succ, List.setIfInBounds_toArray, List.set_cons_zero, List.set_cons_succ]
          refine wpAnyH_done (by kernel_rfl) ?_ _
          refine NoPanic.normal ?_
          have BF := Lib.hid D9.out
          generalize hw10 : World.setCell V3 ⟨wz.heap.size, 1, none⟩ (.slice a9 n2 c9) = w10 at BF ⊢
          clear hw10 hown1 hown2 hown3 hgr2 hgr3 hat2 hat3 z9 y9 f9 D9 hHeld B1 B2' B3' hcD hcT HH HS2 DN XDN XSN XCN HFT p1 l0
          have BK := BF.out.kept
          have XDe := Lib.hid (XD8.out.below BK)
          have XSe := Lib.hid (XS8.out.below BK)
          have XCe := Lib.hid (XC8.out.below BK)
          have XBe := Lib.hid BF.out.box
          have HDB : Hid (DisAt w10 aa n1 ca a9 n2 c9 (turned d n2)) := Lib.hid (BF.out.dis (by omega) (by omega))
          have HCB := Lib.hid BF.out.cap
          have BE := Lib.hid (below_then B8.out BK)
          have KJ1 := Lib.hid (fun W (h : Below w10.heap.size w10 W) => KT1.out n2 W aa a9 ca c9 HCB.out (HT2.out W (below_then BE.out h)) (HDB.out.below h))
          have KJ2 := Lib.hid (fun W (h : Below w10.heap.size w10 W) => KT2.out n2 W aa a9 ca c9 HCB.out (HT2.out W (below_then BE.out h)) (HDB.out.below h))
          have p3 := XSe.out.c1
          have l1 := XSe.out.lt
          clear BK KT1 KT2 XD8 XS8 XC8 HD8 BF HDB HCB
          generalize wz.heap.size = bk at XBe ⊢
          go_wp2
          go_loopw [10, 11] (fun mk iv wr => ∃ k : Nat, iv = .int .i64 k ∧ k ≤ ct.size ∧ mk = .int .i64 ((marksTo ct.data.toList k : Nat) : Int) ∧ ∃ nd, wr = w10.drewN nd) (fun _ iv _ => ct.size - (intOf iv).toNat)
          case atStart => exact ⟨0, rfl, Nat.zero_le _, by simp [marksTo], 0, rfl⟩
          case round =>
            obtain ⟨k, rfl, hk, rfl, nd, rfl⟩ := hrel
            by_cases hlt : k < ct.size
            · have hmn := marks_next ct k hlt
              have hml := marks_le ct.data.toList k
              generalize marksTo ct.data.toList k = mm at hmn hml ⊢
              cases hc : ((ct[k].toNat : Int) == 60)
              · have hmn : marksTo ct.data.toList (k + 1) = mm := by rw [hmn, hc]; rfl
                go_wp2
                go_roundw
                case rel => exact ⟨k + 1, by go_num, by omega, by rw [hmn], _, rfl⟩
                case measure => simp [intOf]; omega
              · have hmn : marksTo ct.data.toList (k + 1) = mm + 1 := by rw [hmn, hc]; rfl
                go_wp2
                go_roundw
                case rel => exact ⟨k + 1, by go_num, by omega, by rw [hmn]; go_num, _, rfl⟩
                case measure => simp [intOf]; omega
            · obtain rfl : k = ct.size := by omega
              have hmm : ((marksTo ct.data.toList ct.size : Nat) : Int) = (n1 : Int) + ((n2 : Nat) : Int) := by rw [marks_all, HMK.out]; rfl
              rw [hmm]
              have q4 : IntKind.i64.wrap ((n1 : Int) + ((n2 : Nat) : Int)) = (n1 : Int) + ((n2 : Nat) : Int) := IntWalk.i64_in _ (by omega)
              have q5 : IntKind.i64.wrap (n1 : Int) = (n1 : Int) := IntWalk.i64_in _ (by omega)
              have bn := below_drewN (Below.refl w10.heap.size w10) nd
              clear p3 l1 hmm
              have XDf := XDe.out.below bn
              have XSf := XSe.out.below bn
              have XCf := XCe.out.below bn
              have XBf := XBe.out.below bn
              generalize w10.drewN nd = w11 at *
              have l0 := XDf.lt
              have l1 := XSf.lt
              have l2 := XCf.lt
              have l3 := XBf.lt
              have p0 := XDf.c0
              have p1 := XDf.c1
              have p2 := XSf.c0
              have p3 := XSf.c1
              have p4 := XCf.c0
              have p5 := XCf.c1
              have p6 := XBf.c0
              have p7 := XBf.c1
              clear XDf XSf XCf XBf XDe XSe XCe XBe
              have nt1 := fun W => eqText2 0 ct W
              have nt2 := fun W => eqText2 0 cn W
              go_wp2_with fail
              have hS0 : Below w10.heap.size w10 w11.drew ∧ w11.drew.cell? ⟨bd, 0, none⟩ = some (.slice a1 n1 c1) ∧ w11.drew.cell? ⟨bd, 1, none⟩ = some (.slice (some ad) n2 n2) ∧ w11.drew.cell? ⟨bs, 0, none⟩ = some (.int .i64 0) ∧ w11.drew.cell? ⟨bs, 1, none⟩ = some (.string ct) ∧ w11.drew.cell? ⟨bc, 0, none⟩ = some (.int .i64 0) ∧ w11.drew.cell? ⟨bc, 1, none⟩ = some (.string cn) ∧ w11.drew.cell? ⟨bk, 0, none⟩ = some (.slice aa n1 ca) ∧ w11.drew.cell? ⟨bk, 1, none⟩ = some (.slice a9 n2 c9) := ⟨bn.drew, p0, p1, p2, p3, p4, p5, p6, p7⟩
              (go_region_held3 (fun W => Below w10.heap.size w10 W ∧ W.cell? ⟨bd, 0, none⟩ = some (.slice a1 n1 c1) ∧ W.cell? ⟨bd, 1, none⟩ = some (.slice (some ad) n2 n2) ∧ W.cell? ⟨bs, 0, none⟩ = some (.int .i64 0) ∧ W.cell? ⟨bs, 1, none⟩ = some (.string ct) ∧ W.cell? ⟨bc, 0, none⟩ = some (.int .i64 0) ∧ W.cell? ⟨bc, 1, none⟩ = some (.string cn) ∧ W.cell? ⟨bk, 0, none⟩ = some (.slice aa n1 ca) ∧ W.cell? ⟨bk, 1, none⟩ = some (.slice a9 n2 c9)) (first | assumption | exact held8 hbr (by assumption))
                (first
                  | (go_at_call 40; refine (KJ1.out _ (And.left (by assumption))).mono ?_; rintro e wa ⟨rfl, hbr⟩)
                  | (go_at_call 41; refine (KJ2.out _ (And.left (by assumption))).mono ?_; rintro e we ⟨rfl, hbr⟩)))
              have hB12 : Below w10.heap.size w10 we := And.left (by assumption)
              go_wp2
              go_ret
              exact ⟨rfl, below_then B2.out (below_then BE.out hB12)⟩
        · obtain ⟨hown1, B1, hcD, hcT, hcap2⟩ := HH.out
          obtain ⟨hc1, hc2, hc3⟩ := hcap2
          have hz4 : z ≤ c2 := by omega
          have hz5 : (z : Int) ≤ (c2 : Int) := by omega
          go_wp2_with fail
          refine wp_region_noPanic ?_
          refine wp_region_held_drew (S := (fun W => W.cell? ⟨bd, 1, none⟩ = some (.slice (some ad) n2 c2))) (by kernel_rfl) ?_ (fun hHeld => ?_)
          · exact HS2.out _ ((Below.refl w9.heap.size w9).drew)
          refine wpAnyH_take (i := 1) (oi := _) (v := ?_) rfl (by kernel_rfl) (by kernel_rfl) (by kernel_rfl) (fun _ _ _ h => h) (Or.inl ⟨by rfl, ?_⟩) (by with_reducible assumption) ?_
          rotate_left
          · intro Wz hSw
            (try dsimp only at hSw)
            go_simp
            all_goals (with_reducible rfl)
          try simp only [Act.put, List.getElem_toArray, List.getElem_cons_zero, List.getElem_cons_succ, List.setIfInBounds_toArray, List.set_cons_zero, List.set_cons_succ]
          refine wpAnyH_take (i := 2) (oi := _) (v := ?_) rfl (by kernel_rfl) (by kernel_rfl) (by kernel_rfl) (fun _ _ _ h => h) (Or.inl ⟨by rfl, ?_⟩) (by with_reducible assumption) ?_
          rotate_left
          · intro Wz hSw
            (try dsimp only at hSw)
            go_simp
            all_goals (with_reducible rfl)
          try simp only [Act.put, List.getElem_toArray, List.getElem_cons_zero, List.getElem_cons_succ, List.setIfInBounds_toArray, List.set_cons_zero, List.set_cons_succ]
          refine wpAnyH_take (i := 3) (oi := _) (v := ?_) rfl (by kernel_rfl) (by kernel_rfl) (by kernel_rfl) (fun _ _ _ h => h) (Or.inl ⟨by rfl, ?_⟩) (by with_reducible assumption) ?_
          rotate_left
          · intro Wz hSw
            (try dsimp only at hSw)
            go_simp
            all_goals (with_reducible rfl)
          try simp only [Act.put, List.getElem_toArray, List.getElem_cons_zero, List.getElem_cons_succ, List.setIfInBounds_toArray, List.set_cons_zero, List.set_cons_succ]
          refine wpAnyH_take (i := 4) (oi := _) (v := ?_) rfl (by kernel_rfl) (by kernel_rfl) (by kernel_rfl) (fun _ _ _ h => h) (Or.inl ⟨by rfl, ?_⟩) (by with_reducible assumption) ?_
          rotate_left
          · intro Wz hSw
            (try dsimp only at hSw)
            go_simp
            all_goals (with_reducible rfl)
          try simp only [Act.put, List.getElem_toArray, List.getElem_cons_zero, List.getElem_cons_succ, List.setIfInBounds_toArray, List.set_cons_zero, List.set_cons_succ]
          refine wpAnyH_take (i := 6) (oi := _) (v := ?_) rfl (by kernel_rfl) (by kernel_rfl) (by kernel_rfl) (fun _ _ _ h => h) (Or.inl ⟨by rfl, ?_⟩) (by with_reducible assumption) ?_
          rotate_left
          · intro Wz hSw
            (try dsimp only at hSw)
            go_simp
            all_goals (with_reducible rfl)
          try simp only [Act.put, List.getElem_toArray, List.getElem_cons_zero, List.getElem_cons_succ, List.setIfInBounds_toArray, List.set_cons_zero, List.set_cons_succ]
          refine wpAnyH_take (i := 7) (oi := _) (v := ?_) rfl (by kernel_rfl) (by kernel_rfl) (by kernel_rfl) (fun _ _ _ h => h) (Or.inl ⟨by rfl, ?_⟩) (by with_reducible assumption) ?_
          rotate_left
          · intro Wz hSw
            (try dsimp only at hSw)
            go_simp
            all_goals (with_reducible rfl)
          try simp only [Act.put, List.getElem_toArray, List.getElem_cons_zero, List.getElem_cons_succ, List.setIfInBounds_toArray, List.set_cons_zero, List.set_cons_succ]
          refine wpAnyH_take (i := 8) (oi := _) (v := ?_) rfl (by kernel_rfl) (by kernel_rfl) (by kernel_rfl) (fun _ _ _ h => h) (Or.inl ⟨by rfl, ?_⟩) (by with_reducible assumption) ?_
          rotate_left
          · intro Wz hSw
            (try dsimp only at hSw)
            go_simp
            all_goals (with_reducible rfl)
          try simp only [Act.put, List.getElem_toArray, List.getElem_cons_zero, List.getElem_cons_succ, List.setIfInBounds_toArray, List.set_cons_zero, List.set_cons_succ]
          refine wpAnyH_take (i := 9) (oi := _) (v := ?_) rfl (by kernel_rfl) (by kernel_rfl) (by kernel_rfl) (fun _ _ _ h => h) (Or.inl ⟨by rfl, ?_⟩) (by with_reducible assumption) ?_
          rotate_left
          · intro Wz hSw
            (try dsimp only at hSw)
            go_simp
            all_goals (with_reducible rfl)
          try simp only [Act.put, List.getElem_toArray, List.getElem_cons_zero, List.getElem_cons_succ, List.setIfInBounds_toArray, List.set_cons_zero, List.set_cons_succ]
          refine wpAnyH_ready (rs := [0]) (by kernel_rfl) (by simp) ?_
          refine AllReadyH.cons (o := _) rfl (fun K hK => ?_) AllReadyH.nil
          go_simp
          refine hK.out _ _ ?_ (fun hHeld => ?_)
          · exact HS2.out _ B1
          clear hK K
          try simp only [Act.put, List.getElem_toArray, List.getElem_cons_zero, List.getElem_cons_succ, List.setIfInBounds_toArray, List.set_cons_zero, List.set_cons_succ]
          refine wpAnyH_ready (rs := [5]) (by kernel_rfl) (by simp) ?_
          refine AllReadyH.cons (o := _) rfl (fun K hK => ?_) AllReadyH.nil
          refine step_own_any (by rfl) _ _ 48 rfl 9 j0 (.string ByteArray.empty) 1 16 Tryz.underlying48 hj hjz0 hjz1 hjz2 rfl (by decide) w9.heap.size _ 0 _ (by rfl) hown1 (some (ad.add z)) (n2 - z) (c2 - z) ((d.feats.drop z).map Value.string) (by rfl) (fun e => by cases e) (by first | (rw [hlD]; omega) | rw [hlD]) (fun ad' e => by cases e; exact hcD _ B1 ad rfl) (strs_one _) (by unfold maxLen; omega) (by omega) B1.size ?_
          intro v2 V2 hown2 hgr2 hat2
          have B2' := B1.grown hgr2 B1.size (fun j hj => (hown1.lt j hj).1)
          refine hK.out _ _ ?_ (fun hHeld => ?_)
          · exact HS2.out _ B2'
          clear hK K
          try simp only [Act.put, List.getElem_toArray, List.getElem_cons_zero, List.getElem_cons_succ, List.setIfInBounds_toArray, List.set_cons_zero, List.set_cons_succ]
          refine wpAnyH_ready (rs := [10]) (by kernel_rfl) (by simp) ?_
          refine AllReadyH.cons (o := _) rfl (fun K hK => ?_) AllReadyH.nil
          refine step_own_any (by rfl) _ _ 48 rfl 9 j0 (.string ByteArray.empty) 1 16 Tryz.underlying48 hj hjz0 hjz1 hjz2 rfl (by decide) w9.heap.size _ _ _ (by rfl) hown2 (some ad) (z) (c2) ((d.feats.take z).map Value.string) (by rfl) (fun e => by cases e) (by first | (rw [hlT]; omega) | rw [hlT]) (fun ad' e => hcT _ B2' ad' e) (strs_one _) (by unfold maxLen; omega) (by omega) B2'.size ?_
          intro v3 V3 hown3 hgr3 hat3
          have B3' := B2'.grown hgr3 B2'.size (fun j hj => (hown2.lt j hj).1)
          obtain ⟨a9, c9, rfl⟩ := owns_slice hown3
          have hN : 0 + (n2 - z) + (z) = n2 := by omega
          rw [hN] at hown3 ⊢
          have D9 := Lib.hid (DN.out.setT B3' (ts' := d.feats.drop z ++ d.feats.take z) (owns_mono (by rw [List.map_append]; simpa using hown3) DN.out.gr.size) (by rw [List.length_append, List.length_drop, List.length_take]; omega))
          have z9 := (DN.out.below B3').box
          have y9 := z9.c1
          have f9 := z9.fz 1 (by decide)
          refine hK.out _ _ ?_ (fun hHeld => ?_)
          · exact HS2.out _ B3'
          clear hK K
          try simp only [Act.put, List.getElem_toArray, List.getElem_cons_zero, List.getElem_cons_succ, List.setIfInBounds_toArray, List.set_cons_zero, List.set_cons_succ]
          refine wpAnyH_take (i := 11) (oi := _) (v := ?_) rfl (by kernel_rfl) (by kernel_rfl) (by kernel_rfl) (fun _ _ _ h => h) (Or.inl ⟨by rfl, ?_⟩) (by with_reducible assumption) ?_
          rotate_left
          · intro Wz hSw
            (try dsimp only at hSw)
            go_simp
            all_goals (with_reducible rfl)
          try simp only [Act.put, List.getElem_toArray, List.getElem_cons_zero, List.getElem_cons_succ, List.setIfInBounds_toArray, List.set_cons_zero, List.set_cons_succ]
          refine wpAnyH_ready (rs := [12]) (by kernel_rfl) (by simp) ?_
          refine AllReadyH.cons (o := _) rfl (fun K hK => ?_) AllReadyH.nil
          go_simp
          refine hK.out _ _ ?_ (fun hHeld => ?_)
          · exact (XD8.out.below D9.out.kept).c1
          clear hK K
          try simp only [Act.put, List.getElem_toArray, List.getElem_cons_zero, List.getElem_cons_succ, List.setIfInBounds_toArray, List.set_cons_zero, List.set_cons_succ]
          refine wpAnyH_done (by kernel_rfl) ?_ _
          refine NoPanic.normal ?_
          have BF := Lib.hid D9.out
          generalize hw10 : World.setCell V3 ⟨wz.heap.size, 1, none⟩ (.slice a9 n2 c9) = w10 at BF ⊢
          clear hw10 hown1 hown2 hown3 hgr2 hgr3 hat2 hat3 z9 y9 f9 D9 hHeld B1 B2' B3' hcD hcT HH HS2 DN XDN XSN XCN HFT p1 l0
          have BK := BF.out.kept
          have XDe := Lib.hid (XD8.out.below BK)
          have XSe := Lib.hid (XS8.out.below BK)
          have XCe := Lib.hid (XC8.out.below BK)
          have XBe := Lib.hid BF.out.box
          have HDB : Hid (DisAt w10 aa n1 ca a9 n2 c9 (turned d z)) := Lib.hid (BF.out.dis (by omega) (by omega))
          have HCB := Lib.hid BF.out.cap
          have BE := Lib.hid (below_then B8.out BK)
          have KJ1 := Lib.hid (fun W (h : Below w10.heap.size w10 W) => KT1.out z W aa a9 ca c9 HCB.out (HT2.out W (below_then BE.out h)) (HDB.out.below h))
          have KJ2 := Lib.hid (fun W (h : Below w10.heap.size w10 W) => KT2.out z W aa a9 ca c9 HCB.out (HT2.out W (below_then BE.out h)) (HDB.out.below h))
          have p3 := XSe.out.c1
          have l1 := XSe.out.lt
          clear BK KT1 KT2 XD8 XS8 XC8 HD8 BF HDB HCB
          generalize wz.heap.size = bk at XBe ⊢
          go_wp2
          go_loopw [10, 11] (fun mk iv wr => ∃ k : Nat, iv = .int .i64 k ∧ k ≤ ct.size ∧ mk = .int .i64 ((marksTo ct.data.toList k : Nat) : Int) ∧ ∃ nd, wr = w10.drewN nd) (fun _ iv _ => ct.size - (intOf iv).toNat)
          case atStart => exact ⟨0, rfl, Nat.zero_le _, by simp [marksTo], 0, rfl⟩
          case round =>
            obtain ⟨k, rfl, hk, rfl, nd, rfl⟩ := hrel
            by_cases hlt : k < ct.size
            · have hmn := marks_next ct k hlt
              have hml := marks_le ct.data.toList k
              generalize marksTo ct.data.toList k = mm at hmn hml ⊢
              cases hc : ((ct[k].toNat : Int) == 60)
              · have hmn : marksTo ct.data.toList (k + 1) = mm := by rw [hmn, hc]; rfl
                go_wp2
                go_roundw
                case rel => exact ⟨k + 1, by go_num, by omega, by rw [hmn], _, rfl⟩
                case measure => simp [intOf]; omega
              · have hmn : marksTo ct.data.toList (k + 1) = mm + 1 := by rw [hmn, hc]; rfl
                go_wp2
                go_roundw
                case rel => exact ⟨k + 1, by go_num, by omega, by rw [hmn]; go_num, _, rfl⟩
                case measure => simp [intOf]; omega
            · obtain rfl : k = ct.size := by omega
              have hmm : ((marksTo ct.data.toList ct.size : Nat) : Int) = (n1 : Int) + ((n2 : Nat) : Int) := by rw [marks_all, HMK.out]; rfl
              rw [hmm]
              have q4 : IntKind.i64.wrap ((n1 : Int) + ((n2 : Nat) : Int)) = (n1 : Int) + ((n2 : Nat) : Int) := IntWalk.i64_in _ (by omega)
              have q5 : IntKind.i64.wrap (n1 : Int) = (n1 : Int) := IntWalk.i64_in _ (by omega)
              have bn := below_drewN (Below.refl w10.heap.size w10) nd
              clear p3 l1 hmm
              have XDf := XDe.out.below bn
              have XSf := XSe.out.below bn
              have XCf := XCe.out.below bn
              have XBf := XBe.out.below bn
              generalize w10.drewN nd = w11 at *
              have l0 := XDf.lt
              have l1 := XSf.lt
              have l2 := XCf.lt
              have l3 := XBf.lt
              have p0 := XDf.c0
              have p1 := XDf.c1
              have p2 := XSf.c0
              have p3 := XSf.c1
              have p4 := XCf.c0
              have p5 := XCf.c1
              have p6 := XBf.c0
              have p7 := XBf.c1
              clear XDf XSf XCf XBf XDe XSe XCe XBe
              have nt1 := fun W => eqText2 0 ct W
              have nt2 := fun W => eqText2 0 cn W
              go_wp2_with fail
              have hS0 : Below w10.heap.size w10 w11.drew ∧ w11.drew.cell? ⟨bd, 0, none⟩ = some (.slice a1 n1 c1) ∧ w11.drew.cell? ⟨bd, 1, none⟩ = some (.slice (some ad) n2 c2) ∧ w11.drew.cell? ⟨bs, 0, none⟩ = some (.int .i64 0) ∧ w11.drew.cell? ⟨bs, 1, none⟩ = some (.string ct) ∧ w11.drew.cell? ⟨bc, 0, none⟩ = some (.int .i64 0) ∧ w11.drew.cell? ⟨bc, 1, none⟩ = some (.string cn) ∧ w11.drew.cell? ⟨bk, 0, none⟩ = some (.slice aa n1 ca) ∧ w11.drew.cell? ⟨bk, 1, none⟩ = some (.slice a9 n2 c9) := ⟨bn.drew, p0, p1, p2, p3, p4, p5, p6, p7⟩
              (go_region_held3 (fun W => Below w10.heap.size w10 W ∧ W.cell? ⟨bd, 0, none⟩ = some (.slice a1 n1 c1) ∧ W.cell? ⟨bd, 1, none⟩ = some (.slice (some ad) n2 c2) ∧ W.cell? ⟨bs, 0, none⟩ = some (.int .i64 0) ∧ W.cell? ⟨bs, 1, none⟩ = some (.string ct) ∧ W.cell? ⟨bc, 0, none⟩ = some (.int .i64 0) ∧ W.cell? ⟨bc, 1, none⟩ = some (.string cn) ∧ W.cell? ⟨bk, 0, none⟩ = some (.slice aa n1 ca) ∧ W.cell? ⟨bk, 1, none⟩ = some (.slice a9 n2 c9)) (first | assumption | exact held8 hbr (by assumption))
                (first
                  | (go_at_call 40; refine (KJ1.out _ (And.left (by assumption))).mono ?_; rintro e wa ⟨rfl, hbr⟩)
                  | (go_at_call 41; refine (KJ2.out _ (And.left (by assumption))).mono ?_; rintro e we ⟨rfl, hbr⟩)))
              have hB12 : Below w10.heap.size w10 we := And.left (by assumption)
              go_wp2
              go_ret
              exact ⟨rfl, below_then B2.out (below_then BE.out hB12)⟩

theorem fnCaps_walk (a : Option Addr) (n c : Nat) (xs : List Int) (w : World) (h : InRow w a n c xs) (hT : Tabs w) :
    Calls Tryz.prog 5 #[.slice a n c] w fun e w' => e = .returned (.bool true) ∧ Below w.heap.size w w' := by
  by_cases hs2 : n ≤ 1048576
  · exact fnCaps_walk0 a n c xs w ⟨h.len, hs2, h.byte, h.row⟩ hT
  · have hbig : decide (1048576 < n) = true := by simp; omega
    have hm := h.max
    unfold maxLen at hm
    go_enter Tryz.func5, Tryz.ntmps5
    go_wp2_with fail
    refine (lwBig_any a n c (by omega) _).mono ?_
    rintro e w1 ⟨rfl, rfl⟩
    rw [hbig]
    go_wp2
    go_ret
    exact ⟨rfl, Below.refl _ _⟩
end Go.Proofs.YtcaknhoaoodbfaaGreatDoor
