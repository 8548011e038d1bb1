/- The walk of FnExactIdentityText. -/
import Derived.Test.YtlhflkpbccbofaaDoorImplIdent
import Derived.Test.YtlhflkpbccbofaaDoorSzD
import Derived.Test.YtlhflkpbccbofaaDoorToI
import Derived.Test.YtlhflkpbccbofaaDoorIdIn
namespace Go.Proofs.YtlhflkpbccbofaaDoor
open Go.ChangeShapes Go.WideShapes Go.ChangeAt Go.RowKit
set_option linter.unusedVariables false

/-- an identity in a box -/
structure BoxI (W : World) (b : Nat) (s t u v : ByteArray) : Prop where
  lt : b < W.heap.size
  c0 : W.cell? ⟨b, 0, none⟩ = some (.string s)
  c1 : W.cell? ⟨b, 1, none⟩ = some (.string t)
  c2 : W.cell? ⟨b, 2, none⟩ = some (.string u)
  c3 : W.cell? ⟨b, 3, none⟩ = some (.string v)
theorem BoxI.below {W W' : World} {b : Nat} {s t u v : ByteArray} (h : BoxI W b s t u v) (hb : Below W.heap.size W W') : BoxI W' b s t u v :=
  ⟨Nat.lt_of_lt_of_le h.lt hb.size, (hb.cell (by exact h.lt)).trans h.c0, (hb.cell (by exact h.lt)).trans h.c1, (hb.cell (by exact h.lt)).trans h.c2, (hb.cell (by exact h.lt)).trans h.c3⟩

set_option maxRecDepth 100000 in
set_option maxHeartbeats 3200000 in
theorem fnExactIdentityText_walk (x : Ident) (w : World) (hx : IdSize x) (hT : Tabs w) :
    Calls Tryd.prog 4 #[.agg #[.string x.cat, .string x.kind, .string x.lang, .string x.name]] w fun e w' => e = .returned (.bool true) ∧ Below w.heap.size w w' := by
  have KZ := Lib.hid (fun W => szIdentity_any x 1048576 W (by decide) (by decide) hx)
  have KP := Lib.hid (fun W => toIdentity_any x.cat x.kind x.lang x.name W)
  have KS := Lib.hid (fun (hs : SmallId x) W => specIdentityText_any x W hs)
  have KI := Lib.hid (fun (hs : SmallId x) W (hb : Below w.heap.size w W) => implIdentityText_any x W hs (tabs_kept hT hb))
  unfold TxtRes at KS KI
  generalize idCode x = cd at KS KI
  generalize idText x = tx at KS KI
  generalize SmallId x = SM at KZ KS KI
  unfold SzRes Left at KZ
  clear hx hT
  obtain ⟨s, t, u, v⟩ := x
  dsimp only at KZ KP KS KI ⊢
  have X0 : BoxI (w.alloc (.cells #[.string s, .string t, .string u, .string v] 35)) w.heap.size s t u v := ⟨by simp, by simp, by simp, by simp, by simp⟩
  have X0 := Lib.hid X0
  go_enter Tryd.func4, Tryd.ntmps4
  go_wp2_with fail
  refine (KZ.out _).mono ?_
  rintro e w1 ⟨r, hr, rfl, hb1⟩
  have B1 := Lib.hid (below_then (below1 _ _) hb1)
  have X1 := Lib.hid (X0.out.below hb1)
  clear hb1 X0 KZ
  rcases hr with rfl | ⟨hr0, hr1, hsm⟩
  · go_wp2
    go_ret
    exact ⟨rfl, B1.out⟩
  have q0 := X1.out.lt
  have q1 := X1.out.c0
  have q2 := X1.out.c1
  have q3 := X1.out.c2
  have q4 := X1.out.c3
  have KS := Lib.hid (KS.out hsm)
  have KI := Lib.hid (KI.out hsm)
  clear hsm
  go_wp2_with fail
  refine (KP.out _).mono ?_
  rintro e w2 ⟨rfl, hb2⟩
  have B2 := Lib.hid (below_then B1.out hb2)
  have X2 := Lib.hid (X1.out.below hb2)
  clear hb2 X1 q0 q1 q2 q3 q4
  go_wp2_with fail
  refine (KS.out _).mono ?_
  rintro e w3 ⟨rfl, hb3⟩
  have B3 := Lib.hid ((below_then B2.out hb3).alloc (below_then B2.out hb3).size (.cells #[.int .i64 cd, .string tx] 38))
  have X3 := Lib.hid ((X2.out.below hb3).below (below1 w3 (.cells #[.int .i64 cd, .string tx] 38)))
  have V3 := Lib.hid (Var2.new w3 38 cd (.string tx))
  have q0 := X3.out.lt
  have q1 := X3.out.c0
  have q2 := X3.out.c1
  have q3 := X3.out.c2
  have q4 := X3.out.c3
  clear hb3 X2
  go_wp2_with fail
  refine (KP.out _).mono ?_
  rintro e w4 ⟨rfl, hb4⟩
  have B4 := Lib.hid (below_then B3.out hb4)
  have V4 := Lib.hid (V3.out.below hb4)
  clear hb4 X3 V3 q0 q1 q2 q3 q4
  go_wp2_with fail
  refine (KI.out _ B4.out).mono ?_
  rintro e w5 ⟨rfl, hb5⟩
  have B5 := Lib.hid (below_then B4.out hb5)
  have V5 := V4.out.below hb5
  have q0 := V5.lt
  have q1 := V5.c0
  have q2 := V5.c1
  clear hb5 V4 V5
  go_wp2_with fail
  refine (eqTxt cd tx _).mono ?_
  rintro e w6 ⟨rfl, hb6⟩
  have B6 := Lib.hid (below_then (B5.out.alloc B5.out.size _) hb6)
  clear hb6 q0 q1 q2
  go_wp2
  go_ret
  exact ⟨rfl, B6.out⟩
end Go.Proofs.YtlhflkpbccbofaaDoor
