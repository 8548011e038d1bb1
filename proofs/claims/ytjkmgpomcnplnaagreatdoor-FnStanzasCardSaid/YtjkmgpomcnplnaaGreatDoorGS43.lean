/- The walk of FnStanzas. -/
import Derived.Test.YtjkmgpomcnplnaaGreatDoorGS20
import Derived.Test.YtjkmgpomcnplnaaGreatDoorGS22
import Derived.Test.YtjkmgpomcnplnaaGreatDoorGS19
import Derived.Test.YtjkmgpomcnplnaaGreatDoorGS29
import Derived.Test.YtjkmgpomcnplnaaGreatDoorGS30
import Derived.Test.YtjkmgpomcnplnaaGreatDoorGS31
import Derived.Test.YtjkmgpomcnplnaaGreatDoorGS32
import Derived.Test.YtjkmgpomcnplnaaGreatDoorGS42
import Derived.Test.YtjkmgpomcnplnaaGreatDoorGS13
import Derived.Test.YtjkmgpomcnplnaaGreatDoorGS7
import Derived.Test.YtjkmgpomcnplnaaGreatDoorGS14
import Derived.Test.YtjkmgpomcnplnaaGreatDoorGS17
import Derived.Test.YtjkmgpomcnplnaaGreatDoorGS27
import Derived.Test.YtjkmgpomcnplnaaGreatDoorGS8
import Derived.Deep.RegionHeld3
import Derived.Deep.DeepCutAuto
namespace Go.Proofs.YtjkmgpomcnplnaaGreatDoor
open Go.ChangeShapes Go.WideShapes Go.ChangeAt Go.RowKit
set_option linter.unusedVariables false
set_option linter.unusedSimpArgs false
structure V2 (w : World) (b : Nat) (v0 v1 : Value) : Prop where
  lt : b < w.heap.size
  c0 : w.cell? ⟨b, 0, none⟩ = some v0
  c1 : w.cell? ⟨b, 1, none⟩ = some v1
theorem V2.new (w : World) (T : TypeId) (v0 v1 : Value) : V2 (w.alloc (.cells #[v0, v1] T)) w.heap.size v0 v1 := ⟨by simp, by simp, by simp⟩
theorem V2.below {w w' : World} {b : Nat} {v0 v1 : Value} (h : V2 w b v0 v1) (hb : Below w.heap.size w w') : V2 w' b v0 v1 := ⟨Nat.lt_of_lt_of_le h.lt hb.size, (hb.cell (by exact h.lt)).trans h.c0, (hb.cell (by exact h.lt)).trans h.c1⟩
theorem SmallPr.sizes {p : Pr} (h : SmallPr p) : PrSize p := ⟨by have := h.texts; omega, by have := h.texts; omega, by have := h.texts; omega⟩
set_option maxRecDepth 100000 in
set_option maxHeartbeats 6400000 in
theorem fnStanzas_walk0 (a : Option Addr) (n c : Nat) (xs : List Int) (w : World) (hC : CodeAt w a n c xs) (hT : Tabs w) (hPw : Pows w) (ea eb : Addr) (hE : NumErrs w ea eb) :
    Calls Tryz.prog 3 #[.slice a n c] w fun e w' => e = .returned (.bool true) ∧ Below w.heap.size w w' := by
  have hn := hC.size
  have hbig : decide (1048576 < n) = false := by simp; omega
  have HC := Lib.hid hC
  have HT := Lib.hid (fun W (h : Below w.heap.size w W) => tabs_kept hT h)
  have HP := Lib.hid (fun W (h : Below w.heap.size w W) => hPw.below h)
  have HE := Lib.hid (fun W (h : Below w.heap.size w W) => hE.below h)
  clear hC hT hPw hE
  go_enter Tryz.func3, Tryz.ntmps3
  go_wp2_with fail
  refine (lwBig_any a n c (by omega) _).mono ?_
  rintro e w1 ⟨rfl, rfl⟩
  rw [hbig]
  go_wp2_with fail
  have KD := drawTreeOf_any a n c xs w1 HC.out
  unfold TopPr at KD
  refine KD.mono ?_
  clear KD
  rintro e w2 ⟨y, xy, my, qy, rfl, ho, hPD, hb2⟩
  have hsy := hPD.small
  have OY := Lib.hid (fun W (h : Below w2.heap.size w2 W) => ho.below h)
  have B12 := Lib.hid hb2
  have KI := implTreeOf_any y (some xy) my qy w1.heap.size w2.heap.size _ (HT.out _ (below_then hb2 (below1 w2 (.cells #[.int .i64 y.kind, .string y.sender, .string y.goal, .int .i64 y.shown, .string y.status, .int .i64 y.prio, .slice (some xy) my qy] 26)))) (HP.out _ (below_then hb2 (below1 w2 (.cells #[.int .i64 y.kind, .string y.sender, .string y.goal, .int .i64 y.shown, .string y.status, .int .i64 y.prio, .slice (some xy) my qy] 26)))) hsy (ho.below (below1 w2 (.cells #[.int .i64 y.kind, .string y.sender, .string y.goal, .int .i64 y.shown, .string y.status, .int .i64 y.prio, .slice (some xy) my qy] 26)))
  unfold TreeOwn at KI
  have hl2 : w2.heap.size < (w2.alloc (.cells #[.int .i64 y.kind, .string y.sender, .string y.goal, .int .i64 y.shown, .string y.status, .int .i64 y.prio, .slice (some xy) my qy] 26)).heap.size := by simp
  clear ho hPD hb2
  go_wp2_with fail
  refine KI.mono ?_
  clear KI
  rintro e w3 ⟨at', nt, ct, rfl, hot, hb3⟩
  have XP3 := Lib.hid ((X7.new w2 26 (.int .i64 y.kind) (.string y.sender) (.string y.goal) (.int .i64 y.shown) (.string y.status) (.int .i64 y.prio) (.slice (some xy) my qy)).below hb3)
  have B23 := Lib.hid (below_then (below1 w2 (.cells #[.int .i64 y.kind, .string y.sender, .string y.goal, .int .i64 y.shown, .string y.status, .int .i64 y.prio, .slice (some xy) my qy] 26)) hb3)
  have OT := Lib.hid (fun W (h : Below w3.heap.size w3 W) => hot.below h)
  have B13 := Lib.hid (below_then B12.out B23.out)
  have KD := drawPresenceOf_any a n c xs (w3.alloc (.cells #[.int .i64 (presCode y), .slice at' nt ct] 29)) (HC.out.below (below_then B13.out (below1 w3 (.cells #[.int .i64 (presCode y), .slice at' nt ct] 29))))
  unfold TopMore at KD
  clear hot hb3 hl2
  go_wp2_with fail
  refine KD.mono ?_
  clear KD
  rintro e w4 ⟨x4, m4, q4, L, rfl, ho, hsL, hb4⟩
  have XT4 := Lib.hid ((V2.new w3 29 (.int .i64 (presCode y)) (.slice at' nt ct)).below hb4)
  have B34 := Lib.hid (below_then (below1 w3 (.cells #[.int .i64 (presCode y), .slice at' nt ct] 29)) hb4)
  have OL := Lib.hid (fun W (h : Below w4.heap.size w4 W) => ho.below h)
  have B14 := Lib.hid (below_then B13.out B34.out)
  have KI := implPresenceOf_any _ _ x4 m4 q4 L w4 hsL ho (HT.out _ B14.out) (HP.out _ B14.out) ea eb (HE.out _ B14.out)
  unfold PrrOwn at KI
  have HFR : Hid (readCode L = 0 → presCode (readVal L) = 0) := Lib.hid read_good
  have HFV : Hid (readCode L ≠ 0 → (readVal L).more = []) := Lib.hid read_void
  have hsr := small_read hsL
  have KS2 := Lib.hid (fun W (h : Below w4.heap.size w4 W) => specPresenceOf_any _ _ x4 m4 q4 L W hsL (OL.out W h))
  unfold PrrOwn at KS2
  generalize readCode L = rc at *
  generalize readVal L = rv at *
  clear ho hb4
  go_wp2_with fail
  refine KI.mono ?_
  clear KI
  rintro e w5 ⟨ar, nr, cr, rfl, hor, hb5⟩
  have B45 := Lib.hid hb5
  have B15 := Lib.hid (below_then B14.out hb5)
  have OR := Lib.hid (fun W (h : Below w5.heap.size w5 W) => hor.below h)
  have KD := drawSamePresences_any a n c xs (w5.alloc (.cells #[.int .i64 rc, .int .i64 rv.kind, .string rv.sender, .string rv.goal, .int .i64 rv.shown, .string rv.status, .int .i64 rv.prio, .slice ar nr cr] 33)) (HC.out.below (below_then B15.out (below1 w5 (.cells #[.int .i64 rc, .int .i64 rv.kind, .string rv.sender, .string rv.goal, .int .i64 rv.shown, .string rv.status, .int .i64 rv.prio, .slice ar nr cr] 33))))
  unfold TopTwo at KD
  clear hor hb5
  go_wp2_with fail
  refine KD.mono ?_
  clear KD
  rintro e w6 ⟨ya, yb, xa, xb, ma, qa, mb, qb, rfl, hoa, hob, hb6⟩
  have XR6 := Lib.hid ((B8.new w5 33 (.int .i64 rc) (.int .i64 rv.kind) (.string rv.sender) (.string rv.goal) (.int .i64 rv.shown) (.string rv.status) (.int .i64 rv.prio) (.slice ar nr cr)).below hb6)
  have B56 := Lib.hid (below_then (below1 w5 (.cells #[.int .i64 rc, .int .i64 rv.kind, .string rv.sender, .string rv.goal, .int .i64 rv.shown, .string rv.status, .int .i64 rv.prio, .slice ar nr cr] 33)) hb6)
  have B16 := Lib.hid (below_then B15.out B56.out)
  have OA := Lib.hid (fun W (h : Below w6.heap.size w6 W) => (hoa.below h).its)
  have OB := Lib.hid (fun W (h : Below w6.heap.size w6 W) => (hob.below h).its)
  have bxb := below1 (w6.alloc (.cells #[.int .i64 ya.kind, .string ya.sender, .string ya.goal, .int .i64 ya.shown, .string ya.status, .int .i64 ya.prio, .slice xa ma qa] 26)) (.cells #[.int .i64 yb.kind, .string yb.sender, .string yb.goal, .int .i64 yb.shown, .string yb.status, .int .i64 yb.prio, .slice xb mb qb] 26)
  have XA7 := Lib.hid ((X7.new w6 26 (.int .i64 ya.kind) (.string ya.sender) (.string ya.goal) (.int .i64 ya.shown) (.string ya.status) (.int .i64 ya.prio) (.slice xa ma qa)).below bxb)
  have XB7 := Lib.hid (X7.new (w6.alloc (.cells #[.int .i64 ya.kind, .string ya.sender, .string ya.goal, .int .i64 ya.shown, .string ya.status, .int .i64 ya.prio, .slice xa ma qa] 26)) 26 (.int .i64 yb.kind) (.string yb.sender) (.string yb.goal) (.int .i64 yb.shown) (.string yb.status) (.int .i64 yb.prio) (.slice xb mb qb))
  have B67 := Lib.hid (below_then (below1 w6 (.cells #[.int .i64 ya.kind, .string ya.sender, .string ya.goal, .int .i64 ya.shown, .string ya.status, .int .i64 ya.prio, .slice xa ma qa] 26)) bxb)
  have B17 := Lib.hid (below_then B16.out B67.out)
  have KD := drawKindWord_any a n c xs _ (HC.out.below B17.out)
  clear hoa hob hb6 bxb
  go_wp2_with fail
  refine KD.mono ?_
  clear KD
  rintro e w8 ⟨⟨kw, rfl, hk1, hk2⟩, hb8⟩
  have B78 := Lib.hid hb8
  have B18 := Lib.hid (below_then B17.out hb8)
  have KD := drawShowWord_any a n c xs w8 (HC.out.below B18.out)
  clear hb8
  go_wp2_with fail
  refine KD.mono ?_
  clear KD
  rintro e w9 ⟨⟨sw, rfl, hk3, hk4⟩, hb9⟩
  have B89 := Lib.hid hb9
  have B19 := Lib.hid (below_then B18.out hb9)
  have KD := drawMoreFault_any a n c xs w9 (HC.out.below B19.out)
  unfold TopMore at KD
  clear hb9
  go_wp2_with fail
  refine KD.mono ?_
  clear KD
  rintro e w10 ⟨xm, mm, qm, M, rfl, hom, hsM, hb10⟩
  have OM := Lib.hid (fun W (h : Below w10.heap.size w10 W) => (hom.below h).its)
  have B7A := Lib.hid (below_then B78.out (below_then B89.out hb10))
  have B6A := Lib.hid (below_then B67.out B7A.out)
  have B5A := Lib.hid (below_then B56.out B6A.out)
  have B4A := Lib.hid (below_then B45.out B5A.out)
  have B3A := Lib.hid (below_then B34.out B4A.out)
  have B2A := Lib.hid (below_then B23.out B3A.out)
  have B1A := Lib.hid (below_then B12.out B2A.out)
  have XP := Lib.hid (XP3.out.below B3A.out)
  have XT := Lib.hid (XT4.out.below B4A.out)
  have XR := Lib.hid (XR6.out.below B6A.out)
  have XA := Lib.hid (XA7.out.below B7A.out)
  have XB := Lib.hid (XB7.out.below B7A.out)
  have OYv := Lib.hid (fun W (h : Below w10.heap.size w10 W) => OY.out W (below_then B2A.out h))
  have OTv := Lib.hid (fun W (h : Below w10.heap.size w10 W) => OT.out W (below_then B3A.out h))
  have OLv := Lib.hid (fun W (h : Below w10.heap.size w10 W) => OL.out W (below_then B4A.out h))
  have ORv := Lib.hid (fun W (h : Below w10.heap.size w10 W) => OR.out W (below_then B5A.out h))
  have OAv := Lib.hid (fun W (h : Below w10.heap.size w10 W) => OA.out W (below_then B6A.out h))
  have OBv := Lib.hid (fun W (h : Below w10.heap.size w10 W) => OB.out W (below_then B6A.out h))
  have HTv := Lib.hid (fun W (h : Below w10.heap.size w10 W) => HT.out W (below_then B1A.out h))
  have HPv := Lib.hid (fun W (h : Below w10.heap.size w10 W) => HP.out W (below_then B1A.out h))
  have HEv := Lib.hid (fun W (h : Below w10.heap.size w10 W) => HE.out W (below_then B1A.out h))
  have KS1 := Lib.hid (fun W (h : Below w10.heap.size w10 W) => specTreeOf_any y (some xy) my qy _ _ W hsy (OYv.out W h))
  unfold TreeOwn at KS1
  have KS2v := Lib.hid (fun W (h : Below w10.heap.size w10 W) => KS2.out W (below_then B4A.out h))
  obtain ⟨bo, hbo⟩ : ∃ bo : Bool, (bo = true ↔ ya = yb) := by
    by_cases e : ya = yb
    · exact ⟨true, by simp [e]⟩
    · exact ⟨false, by simp [e]⟩
  have KA1 := Lib.hid (fun W (h : Below w10.heap.size w10 W) => implSamePresences_any ya yb xa xb ma mb qa qb W bo hbo (OAv.out W h) (OBv.out W h))
  have KA2 := Lib.hid (fun W (h : Below w10.heap.size w10 W) => specSamePresences_any ya yb xa xb ma mb qa qb W bo hbo (OAv.out W h) (OBv.out W h))
  have KK1 := Lib.hid (fun W => implKindWord_any kw W)
  have KK2 := Lib.hid (fun W => specKindWord_any kw W)
  have KW1 := Lib.hid (fun W => implShowWord_any sw W)
  have KW2 := Lib.hid (fun W => specShowWord_any sw W)
  unfold TxtRes at KK1 KK2 KW1 KW2
  have nk := fun W => neqText (kindC kw) (kindT kw) W
  have nw := fun W => neqText (showC sw) (showT sw) W
  generalize kindC kw = kc at KK1 KK2 nk
  generalize kindT kw = kt at KK1 KK2 nk
  generalize showC sw = sc at KW1 KW2 nw
  generalize showT sw = st at KW1 KW2 nw
  have KM1 := Lib.hid (fun W (h : Below w10.heap.size w10 W) => implMoreFault_any xm mm qm M W (HTv.out W h) (OM.out W h))
  have KM2 := Lib.hid (fun W (h : Below w10.heap.size w10 W) => specMoreFault_any xm mm qm M W hsM (OM.out W h))
  have KP1 := Lib.hid (fun W (h : Below w10.heap.size w10 W) => implPresenceFault_any y (some xy) my qy W (HTv.out W h) hsy.sizes (OYv.out W h).its)
  have KP2 := Lib.hid (fun W (h : Below w10.heap.size w10 W) => specPresenceFault_any y (some xy) my qy W hsy (OYv.out W h).its)
  clear hom hb10 hbo hk1 hk2 hk3 hk4 OY OT OL OR OA OB B12 B23 B34 B45 B56 B67 B78 B89 B13 B14 B15 B16 B17 B18 B19 XP3 XT4 XR6 XA7 XB7 KS2 HC HT HP HE OM
  go_wp2_with fail
  generalize w2.heap.size = bp at XP ⊢
  generalize w3.heap.size = bt at XT ⊢
  generalize w5.heap.size = br at XR ⊢
  (try simp only [World.size_alloc] at XB ⊢)
  generalize w6.heap.size + 1 = bb at XB ⊢
  generalize w6.heap.size = ba at XA ⊢
  have lp := XP.out.lt
  have lt' := XT.out.lt
  have lr := XR.out.lt
  have la := XA.out.lt
  have lb := XB.out.lt
  go_cut [82] (fun v wx => v = .bool false ∧ Below w10.heap.size w10 wx)
  case first =>
    have HS : Hid (∀ W, Below w10.heap.size w10 W → (Below w10.heap.size w10 W ∧ W.cell? ⟨bp, 0, none⟩ = some (.int .i64 y.kind) ∧ W.cell? ⟨bp, 1, none⟩ = some (.string y.sender) ∧ W.cell? ⟨bp, 2, none⟩ = some (.string y.goal) ∧ W.cell? ⟨bp, 3, none⟩ = some (.int .i64 y.shown) ∧ W.cell? ⟨bp, 4, none⟩ = some (.string y.status) ∧ W.cell? ⟨bp, 5, none⟩ = some (.int .i64 y.prio) ∧ W.cell? ⟨bp, 6, none⟩ = some (.slice (some xy) my qy) ∧ W.cell? ⟨bt, 0, none⟩ = some (.int .i64 (presCode y)) ∧ W.cell? ⟨bt, 1, none⟩ = some (.slice at' nt ct) ∧ W.cell? ⟨br, 0, none⟩ = some (.int .i64 rc) ∧ W.cell? ⟨br, 1, none⟩ = some (.int .i64 rv.kind) ∧ W.cell? ⟨br, 2, none⟩ = some (.string rv.sender) ∧ W.cell? ⟨br, 3, none⟩ = some (.string rv.goal) ∧ W.cell? ⟨br, 4, none⟩ = some (.int .i64 rv.shown) ∧ W.cell? ⟨br, 5, none⟩ = some (.string rv.status) ∧ W.cell? ⟨br, 6, none⟩ = some (.int .i64 rv.prio) ∧ W.cell? ⟨br, 7, none⟩ = some (.slice ar nr cr) ∧ W.cell? ⟨ba, 0, none⟩ = some (.int .i64 ya.kind) ∧ W.cell? ⟨ba, 1, none⟩ = some (.string ya.sender) ∧ W.cell? ⟨ba, 2, none⟩ = some (.string ya.goal) ∧ W.cell? ⟨ba, 3, none⟩ = some (.int .i64 ya.shown) ∧ W.cell? ⟨ba, 4, none⟩ = some (.string ya.status) ∧ W.cell? ⟨ba, 5, none⟩ = some (.int .i64 ya.prio) ∧ W.cell? ⟨ba, 6, none⟩ = some (.slice xa ma qa) ∧ W.cell? ⟨bb, 0, none⟩ = some (.int .i64 yb.kind) ∧ W.cell? ⟨bb, 1, none⟩ = some (.string yb.sender) ∧ W.cell? ⟨bb, 2, none⟩ = some (.string yb.goal) ∧ W.cell? ⟨bb, 3, none⟩ = some (.int .i64 yb.shown) ∧ W.cell? ⟨bb, 4, none⟩ = some (.string yb.status) ∧ W.cell? ⟨bb, 5, none⟩ = some (.int .i64 yb.prio) ∧ W.cell? ⟨bb, 6, none⟩ = some (.slice xb mb qb))) := Lib.hid (fun W h => ⟨h, (XP.out.below h).c0, (XP.out.below h).c1, (XP.out.below h).c2, (XP.out.below h).c3, (XP.out.below h).c4, (XP.out.below h).c5, (XP.out.below h).c6, (XT.out.below h).c0, (XT.out.below h).c1, (XR.out.below h).c0, (XR.out.below h).c1, (XR.out.below h).c2, (XR.out.below h).c3, (XR.out.below h).c4, (XR.out.below h).c5, (XR.out.below h).c6, (XR.out.below h).c7, (XA.out.below h).c0, (XA.out.below h).c1, (XA.out.below h).c2, (XA.out.below h).c3, (XA.out.below h).c4, (XA.out.below h).c5, (XA.out.below h).c6, (XB.out.below h).c0, (XB.out.below h).c1, (XB.out.below h).c2, (XB.out.below h).c3, (XB.out.below h).c4, (XB.out.below h).c5, (XB.out.below h).c6⟩)
    have pbp0 := XP.out.c0
    have pbp1 := XP.out.c1
    have pbp2 := XP.out.c2
    have pbp3 := XP.out.c3
    have pbp4 := XP.out.c4
    have pbp5 := XP.out.c5
    have pbp6 := XP.out.c6
    have pbt0 := XT.out.c0
    have pbt1 := XT.out.c1
    have pbr0 := XR.out.c0
    have pbr1 := XR.out.c1
    have pbr2 := XR.out.c2
    have pbr3 := XR.out.c3
    have pbr4 := XR.out.c4
    have pbr5 := XR.out.c5
    have pbr6 := XR.out.c6
    have pbr7 := XR.out.c7
    have pba0 := XA.out.c0
    have pba1 := XA.out.c1
    have pba2 := XA.out.c2
    have pba3 := XA.out.c3
    have pba4 := XA.out.c4
    have pba5 := XA.out.c5
    have pba6 := XA.out.c6
    have pbb0 := XB.out.c0
    have pbb1 := XB.out.c1
    have pbb2 := XB.out.c2
    have pbb3 := XB.out.c3
    have pbb4 := XB.out.c4
    have pbb5 := XB.out.c5
    have pbb6 := XB.out.c6
    have hS0 := HS.out w10.drew ((Below.refl w10.heap.size w10).drew)
    (go_region_held3 (fun W => Below w10.heap.size w10 W ∧ W.cell? ⟨bp, 0, none⟩ = some (.int .i64 y.kind) ∧ W.cell? ⟨bp, 1, none⟩ = some (.string y.sender) ∧ W.cell? ⟨bp, 2, none⟩ = some (.string y.goal) ∧ W.cell? ⟨bp, 3, none⟩ = some (.int .i64 y.shown) ∧ W.cell? ⟨bp, 4, none⟩ = some (.string y.status) ∧ W.cell? ⟨bp, 5, none⟩ = some (.int .i64 y.prio) ∧ W.cell? ⟨bp, 6, none⟩ = some (.slice (some xy) my qy) ∧ W.cell? ⟨bt, 0, none⟩ = some (.int .i64 (presCode y)) ∧ W.cell? ⟨bt, 1, none⟩ = some (.slice at' nt ct) ∧ W.cell? ⟨br, 0, none⟩ = some (.int .i64 rc) ∧ W.cell? ⟨br, 1, none⟩ = some (.int .i64 rv.kind) ∧ W.cell? ⟨br, 2, none⟩ = some (.string rv.sender) ∧ W.cell? ⟨br, 3, none⟩ = some (.string rv.goal) ∧ W.cell? ⟨br, 4, none⟩ = some (.int .i64 rv.shown) ∧ W.cell? ⟨br, 5, none⟩ = some (.string rv.status) ∧ W.cell? ⟨br, 6, none⟩ = some (.int .i64 rv.prio) ∧ W.cell? ⟨br, 7, none⟩ = some (.slice ar nr cr) ∧ W.cell? ⟨ba, 0, none⟩ = some (.int .i64 ya.kind) ∧ W.cell? ⟨ba, 1, none⟩ = some (.string ya.sender) ∧ W.cell? ⟨ba, 2, none⟩ = some (.string ya.goal) ∧ W.cell? ⟨ba, 3, none⟩ = some (.int .i64 ya.shown) ∧ W.cell? ⟨ba, 4, none⟩ = some (.string ya.status) ∧ W.cell? ⟨ba, 5, none⟩ = some (.int .i64 ya.prio) ∧ W.cell? ⟨ba, 6, none⟩ = some (.slice xa ma qa) ∧ W.cell? ⟨bb, 0, none⟩ = some (.int .i64 yb.kind) ∧ W.cell? ⟨bb, 1, none⟩ = some (.string yb.sender) ∧ W.cell? ⟨bb, 2, none⟩ = some (.string yb.goal) ∧ W.cell? ⟨bb, 3, none⟩ = some (.int .i64 yb.shown) ∧ W.cell? ⟨bb, 4, none⟩ = some (.string yb.status) ∧ W.cell? ⟨bb, 5, none⟩ = some (.int .i64 yb.prio) ∧ W.cell? ⟨bb, 6, none⟩ = some (.slice xb mb qb)) (first | assumption | exact HS.out _ (below_then (And.left (by assumption)) hbr))
      (first
        | (go_at_call 14; (with_reducible refine (KS1.out _ (And.left (by assumption))).mono ?_); rintro e wa ⟨a1, n1, c1, rfl, ho1, hbr⟩)
        | (go_at_call 13; (with_reducible refine (lwTree_true (presCode y) _ _ _ _ _ _ (treeT y) _ ?_ ?_).mono ?_); exact (OTv.out _ (And.left (by assumption))).its; exact ho1.its; rintro e wb ⟨rfl, hbr⟩)
        | (go_at_call 16; (with_reducible refine (KS2v.out _ (And.left (by assumption))).mono ?_); rintro e wc ⟨a3, n3, c3, rfl, ho3, hbr⟩)
        | (go_at_call 15; (with_reducible refine (lwOne_true rc rv _ _ _ _ _ _ _ ?_ ?_).mono ?_); exact (ORv.out _ (And.left (by assumption))).its; exact ho3.its; rintro e wf ⟨rfl, hbr⟩)
        | (go_at_call 17; (with_reducible refine (KA1.out _ (And.left (by assumption))).mono ?_); rintro e wg ⟨rfl, hbr⟩)
        | (go_at_call 18; (with_reducible refine (KA2.out _ (And.left (by assumption))).mono ?_); rintro e wh ⟨rfl, hbr⟩)
        | (go_at_call 19; (with_reducible refine (KK1.out _).mono ?_); rintro e wi ⟨rfl, hbr⟩)
        | (go_at_call 20; (with_reducible refine (KK2.out _).mono ?_); rintro e wj ⟨rfl, hbr⟩)
        | (go_at_call 21; (with_reducible refine (KW1.out _).mono ?_); rintro e wk ⟨rfl, hbr⟩)
        | (go_at_call 22; (with_reducible refine (KW2.out _).mono ?_); rintro e wl ⟨rfl, hbr⟩)
        | (go_at_call 23; (with_reducible refine (KM1.out _ (And.left (by assumption))).mono ?_); rintro e wm ⟨rfl, hbr⟩)
        | (go_at_call 24; (with_reducible refine (KM2.out _ (And.left (by assumption))).mono ?_); rintro e wn ⟨rfl, hbr⟩)
        | (go_at_call 25; (with_reducible refine (KP1.out _ (And.left (by assumption))).mono ?_); rintro e wo ⟨rfl, hbr⟩)
        | (go_at_call 26; (with_reducible refine (KP2.out _ (And.left (by assumption))).mono ?_); rintro e wq ⟨rfl, hbr⟩)))
    all_goals (go_wp2_with fail; go_meet; exact ⟨by simp, And.left (by assumption)⟩)
  case rest =>
    obtain ⟨rfl, hbw⟩ := hcut
    obtain ⟨wA, hwA⟩ : ∃ wA, wA = wc := ⟨_, rfl⟩
    subst hwA
    have BA := Lib.hid hbw
    clear hbw KS1 KS2v KA1 KA2 KK1 KK2 KW1 KW2 KM1 KM2 KP1 KP2 nk nw lp lt' lr la lb XA XB OAv OBv
    go_wp2_with fail
    go_cut [100] (fun v wx => v = .bool false ∧ Below w10.heap.size w10 wx)
    case first =>
      by_cases hy0 : presCode y = 0
      · obtain ⟨f1, f2, f3⟩ := tree_whole hy0
        have hsm := small_tree hsy hy0
        rw [hy0] at XT
        have KF := Lib.hid (fun W (h : Below w10.heap.size w10 W) => implTreeFault_any at' nt ct (treeT y) W (HTv.out W h) (OTv.out W h).its)
        have KJ := Lib.hid (fun W (h : Below w10.heap.size w10 W) => implPresenceOf_any _ _ at' nt ct (treeT y) W hsm (OTv.out W h) (HTv.out W h) (HPv.out W h) ea eb (HEv.out W h))
        unfold PrrOwn at KJ
        rw [f1] at KF
        rw [f2, f3] at KJ
        clear f1 f2 f3 hy0 hsm
        have HS : Hid (∀ W, Below w10.heap.size w10 W → (Below w10.heap.size w10 W ∧ W.cell? ⟨bp, 0, none⟩ = some (.int .i64 y.kind) ∧ W.cell? ⟨bp, 1, none⟩ = some (.string y.sender) ∧ W.cell? ⟨bp, 2, none⟩ = some (.string y.goal) ∧ W.cell? ⟨bp, 3, none⟩ = some (.int .i64 y.shown) ∧ W.cell? ⟨bp, 4, none⟩ = some (.string y.status) ∧ W.cell? ⟨bp, 5, none⟩ = some (.int .i64 y.prio) ∧ W.cell? ⟨bp, 6, none⟩ = some (.slice (some xy) my qy) ∧ W.cell? ⟨bt, 0, none⟩ = some (.int .i64 0) ∧ W.cell? ⟨bt, 1, none⟩ = some (.slice at' nt ct))) := Lib.hid (fun W h => ⟨h, (XP.out.below h).c0, (XP.out.below h).c1, (XP.out.below h).c2, (XP.out.below h).c3, (XP.out.below h).c4, (XP.out.below h).c5, (XP.out.below h).c6, (XT.out.below h).c0, (XT.out.below h).c1⟩)
        have pbp0 := XP.out.c0
        have pbp1 := XP.out.c1
        have pbp2 := XP.out.c2
        have pbp3 := XP.out.c3
        have pbp4 := XP.out.c4
        have pbp5 := XP.out.c5
        have pbp6 := XP.out.c6
        have pbt0 := XT.out.c0
        have pbt1 := XT.out.c1
        have YA := XP.out.below BA.out
        have YC := XT.out.below BA.out
        have q0 := YA.c0
        have q1 := YA.c1
        have q2 := YA.c2
        have q3 := YA.c3
        have q4 := YA.c4
        have q5 := YA.c5
        have q6 := YA.c6
        have q7 := YC.c0
        have q8 := YC.c1
        have la := YA.lt
        have lc := YC.lt
        clear YA YC
        have hS0 := HS.out wA.drew BA.out.drew
        (go_region_held3 (fun W => Below w10.heap.size w10 W ∧ W.cell? ⟨bp, 0, none⟩ = some (.int .i64 y.kind) ∧ W.cell? ⟨bp, 1, none⟩ = some (.string y.sender) ∧ W.cell? ⟨bp, 2, none⟩ = some (.string y.goal) ∧ W.cell? ⟨bp, 3, none⟩ = some (.int .i64 y.shown) ∧ W.cell? ⟨bp, 4, none⟩ = some (.string y.status) ∧ W.cell? ⟨bp, 5, none⟩ = some (.int .i64 y.prio) ∧ W.cell? ⟨bp, 6, none⟩ = some (.slice (some xy) my qy) ∧ W.cell? ⟨bt, 0, none⟩ = some (.int .i64 0) ∧ W.cell? ⟨bt, 1, none⟩ = some (.slice at' nt ct)) (first | assumption | exact HS.out _ (below_then (And.left (by assumption)) hbr))
          (first
            | (go_at_call 27; (with_reducible refine (KF.out _ (And.left (by assumption))).mono ?_); rintro e wa ⟨rfl, hbr⟩)
            | (go_at_call 8; (with_reducible refine (KJ.out _ (And.left (by assumption))).mono ?_); rintro e wb ⟨a2, n2, c2, rfl, ho2, hbr⟩)
            | (go_at_call 15; (with_reducible refine (lwOne_true 0 y _ _ _ _ _ _ _ ?_ ?_).mono ?_); exact ho2.its; exact (OYv.out _ (And.left (by assumption))).its; rintro e wd ⟨rfl, hbr⟩)))
        all_goals (go_wp2_with fail; go_meet; exact ⟨by simp, And.left (by assumption)⟩)
      · have hy1 : (presCode y == 0) = false := by rw [beq_eq_false_iff_ne]; exact hy0
        have YC := XT.out.below BA.out
        have q0 := YC.c0
        have lc := YC.lt
        clear YC hy0
        go_quiet (fail)
        all_goals (go_wp2_with fail; go_meet; exact ⟨by simp, below_drewN BA.out _⟩)
    case rest =>
      obtain ⟨rfl, hbw⟩ := hcut
      obtain ⟨wB, hwB⟩ : ∃ wB, wB = wc := ⟨_, rfl⟩
      subst hwB
      have BB := Lib.hid hbw
      clear hbw BA
      have YR := XR.out.below BB.out
      have q0 := YR.c0
      have q1 := YR.c1
      have q2 := YR.c2
      have q3 := YR.c3
      have q4 := YR.c4
      have q5 := YR.c5
      have q6 := YR.c6
      have q7 := YR.c7
      have lr := YR.lt
      clear YR
      by_cases hr0 : rc = 0
      · have hr1 : (rc != 0) = false := by rw [bne_eq_false_iff_eq]; exact hr0
        have g1 := HFR.out hr0
        obtain ⟨f1, f2, f3⟩ := tree_whole g1
        have hsm := small_tree hsr g1
        have KR := implTreeOf_any rv ar nr cr _ _ wB (HTv.out wB BB.out) (HPv.out wB BB.out) hsr (ORv.out wB BB.out)
        unfold TreeOwn at KR
        rw [g1] at KR
        go_wp2_with fail
        refine KR.mono ?_
        clear KR
        rintro e wE ⟨a9, n9, c9, rfl, ho9, hb9⟩
        have bE := below1 wE (.cells #[.int .i64 0, .slice a9 n9 c9] 29)
        have BE := Lib.hid (below_then BB.out (below_then hb9 bE))
        have O9 := Lib.hid (fun W (h : Below (wE.alloc (.cells #[.int .i64 0, .slice a9 n9 c9] 29)).heap.size (wE.alloc (.cells #[.int .i64 0, .slice a9 n9 c9] 29)) W) => ho9.below (below_then bE h))
        have XZ := Lib.hid (V2.new wE 29 (.int .i64 0) (.slice a9 n9 c9))
        subst hr0
        have KF := Lib.hid (fun W (h : Below w10.heap.size w10 W) => implPresenceFault_any rv ar nr cr W (HTv.out W h) hsr.sizes (ORv.out W h).its)
        rw [g1] at KF
        have XQ := Lib.hid (XR.out.below BE.out)
        have lz := XZ.out.lt
        clear ho9 hb9 bE hr1 g1 q0 q1 q2 q3 q4 q5 q6 q7 lr
        go_wp2_with fail
        generalize hzE : wE.heap.size = bz at XZ lz ⊢
        clear hzE
        generalize wE.alloc (.cells #[.int .i64 0, .slice a9 n9 c9] 29) = wF at *
        have KJ := Lib.hid (fun W (h : Below wF.heap.size wF W) => implPresenceOf_any _ _ a9 n9 c9 (treeT rv) W hsm (O9.out W h) (HTv.out W (below_then BE.out h)) (HPv.out W (below_then BE.out h)) ea eb (HEv.out W (below_then BE.out h)))
        unfold PrrOwn at KJ
        rw [f2, f3] at KJ
        have KF2 := Lib.hid (fun W (h : Below wF.heap.size wF W) => KF.out W (below_then BE.out h))
        have OR2 := Lib.hid (fun W (h : Below wF.heap.size wF W) => ORv.out W (below_then BE.out h))
        clear f1 f2 f3 hsm KF
        have HS : Hid (∀ W, Below wF.heap.size wF W → (Below wF.heap.size wF W ∧ W.cell? ⟨br, 0, none⟩ = some (.int .i64 0) ∧ W.cell? ⟨br, 1, none⟩ = some (.int .i64 rv.kind) ∧ W.cell? ⟨br, 2, none⟩ = some (.string rv.sender) ∧ W.cell? ⟨br, 3, none⟩ = some (.string rv.goal) ∧ W.cell? ⟨br, 4, none⟩ = some (.int .i64 rv.shown) ∧ W.cell? ⟨br, 5, none⟩ = some (.string rv.status) ∧ W.cell? ⟨br, 6, none⟩ = some (.int .i64 rv.prio) ∧ W.cell? ⟨br, 7, none⟩ = some (.slice ar nr cr) ∧ W.cell? ⟨bz, 0, none⟩ = some (.int .i64 0) ∧ W.cell? ⟨bz, 1, none⟩ = some (.slice a9 n9 c9))) := Lib.hid (fun W h => ⟨h, (XQ.out.below h).c0, (XQ.out.below h).c1, (XQ.out.below h).c2, (XQ.out.below h).c3, (XQ.out.below h).c4, (XQ.out.below h).c5, (XQ.out.below h).c6, (XQ.out.below h).c7, (XZ.out.below h).c0, (XZ.out.below h).c1⟩)
        have pbr0 := XQ.out.c0
        have pbr1 := XQ.out.c1
        have pbr2 := XQ.out.c2
        have pbr3 := XQ.out.c3
        have pbr4 := XQ.out.c4
        have pbr5 := XQ.out.c5
        have pbr6 := XQ.out.c6
        have pbr7 := XQ.out.c7
        have pbz0 := XZ.out.c0
        have pbz1 := XZ.out.c1
        have lq := XQ.out.lt
        have hS0 := HS.out wF.drew ((Below.refl wF.heap.size wF).drew)
        (go_region_held3 (fun W => Below wF.heap.size wF W ∧ W.cell? ⟨br, 0, none⟩ = some (.int .i64 0) ∧ W.cell? ⟨br, 1, none⟩ = some (.int .i64 rv.kind) ∧ W.cell? ⟨br, 2, none⟩ = some (.string rv.sender) ∧ W.cell? ⟨br, 3, none⟩ = some (.string rv.goal) ∧ W.cell? ⟨br, 4, none⟩ = some (.int .i64 rv.shown) ∧ W.cell? ⟨br, 5, none⟩ = some (.string rv.status) ∧ W.cell? ⟨br, 6, none⟩ = some (.int .i64 rv.prio) ∧ W.cell? ⟨br, 7, none⟩ = some (.slice ar nr cr) ∧ W.cell? ⟨bz, 0, none⟩ = some (.int .i64 0) ∧ W.cell? ⟨bz, 1, none⟩ = some (.slice a9 n9 c9)) (first | assumption | exact HS.out _ (below_then (And.left (by assumption)) hbr))
          (first
            | (go_at_call 25; (with_reducible refine (KF2.out _ (And.left (by assumption))).mono ?_); rintro e wa ⟨rfl, hbr⟩)
            | (go_at_call 8; (with_reducible refine (KJ.out _ (And.left (by assumption))).mono ?_); rintro e wb ⟨a2, n2, c2, rfl, ho2, hbr⟩)
            | (go_at_call 15; (with_reducible refine (lwOne_true 0 rv _ _ _ _ _ _ _ ?_ ?_).mono ?_); exact ho2.its; exact (OR2.out _ (And.left (by assumption))).its; rintro e wd ⟨rfl, hbr⟩)))
        all_goals (have BZ := Lib.hid (below_then B1A.out (below_then BE.out (And.left (by assumption)))); go_wp2; go_ret; exact ⟨rfl, BZ.out⟩)
      · have hr1 : (rc != 0) = true := by rw [bne_iff_ne]; exact hr0
        have hm := HFV.out hr0
        have hlen := (ORv.out wB BB.out).its.len
        rw [hm] at hlen
        have hnr : nr = 0 := by simpa using hlen.symm
        subst hnr
        have BF := Lib.hid (below_then B1A.out BB.out)
        go_wp2
        go_ret
        exact ⟨rfl, BF.out⟩
theorem fnStanzas_walk (a : Option Addr) (n c : Nat) (xs : List Int) (w : World) (h : InRow w a n c xs) (hT : Tabs w) (hPw : Pows w) (sb : Addr) (hb : RngE w sb) (sa : Addr) (ha : SynE w sa) :
    Calls Tryz.prog 3 #[.slice a n c] w fun e w' => e = .returned (.bool true) ∧ Below w.heap.size w w' := by
  by_cases hs2 : n ≤ 1048576
  · exact fnStanzas_walk0 a n c xs w ⟨h.len, hs2, h.byte, h.row⟩ hT hPw sa sb ⟨ha.lt, ha.cell, hb.lt, hb.cell⟩
  · have hbig : decide (1048576 < n) = true := by simp; omega
    have hm := h.max
    unfold maxLen at hm
    go_enter Tryz.func3, Tryz.ntmps3
    go_wp2_with fail
    refine (lwBig_any a n c (by omega) _).mono ?_
    rintro e w1 ⟨rfl, rfl⟩
    rw [hbig]
    go_wp2
    go_ret
    exact ⟨rfl, Below.refl _ _⟩
end Go.Proofs.YtjkmgpomcnplnaaGreatDoor
