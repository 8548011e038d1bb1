/- The walk of FnExactSha1Of. -/
import Derived.Test.YtlhflkpbccbofaaShaO
import Derived.Test.YtlhflkpbccbofaaBytes
import Derived.Test.YtlhflkpbccbofaaToByte
namespace Go.Proofs.Ytlhflkpbccbofaa
open Go.ChangeShapes Go.WideShapes Go.ChangeAt Go.RowKit
set_option linter.unusedVariables false

theorem owned_nil {W : World} {B e n c : Nat} {a : Option Addr} {xs : List Value} (h : W.ownsRow B e 1 (.slice a n c) n xs) : a = none → c = 0 := by
  rintro rfl
  rcases h.2 with ⟨hv, _⟩ | ⟨g, cap, cur, hv, _⟩
  · simp only [Value.slice.injEq] at hv
    exact hv.2.2
  · simp at hv

set_option maxRecDepth 100000 in
set_option maxHeartbeats 3200000 in
theorem fnExactSha1Of_walk0 (a : Option Addr) (n c : Nat) (xs : List Int) (w : World) (hn : n ≤ 1048576) (hr : InRow w a n c xs) (cd : Int) (ys : List Int) (hlen : ys.length ≤ 1000000)
    (K1 : Hid (∀ W a n c, n ≤ 1048576 → (a = none → c = 0) → InRow W a n c xs → Calls Try.prog 12 #[.slice a n c] W (OwnsRes2 W 5 .u8 cd ys)))
    (K2 : Hid (∀ W a n c, n ≤ 1048576 → (a = none → c = 0) → InRow W a n c xs → Calls Try.prog 8 #[.slice a n c] W (OwnsRes2 W 5 .u8 cd ys))) :
    Calls Try.prog 4 #[.slice a n c] w fun e w' => e = .returned (.bool true) ∧ Below w.heap.size w w' := by
  unfold OwnsRes2 at K1 K2
  have KT := Lib.hid (fun (W : World) (hW : Below w.heap.size w W) => toByteS_any a n c xs W hn (hr.below hW))
  unfold OwnsRes at KT
  have hxl : xs.length ≤ 1048576 := by have := hr.len; omega
  have HIN := Lib.hid (fun (W : World) (B : Nat) (a : Option Addr) (n c : Nat) (h : W.ownsRow B 5 1 (.slice a n c) n (xs.map (Value.int .u8))) => And.intro (show n ≤ 1048576 by have := owns_length h; omega) (And.intro (owned_nil h) (inRow_owned h hr.byte)))
  have hn' : (n : Int) ≤ 1048576 := by omega
  clear hr hn
  go_enter Try.func4, Try.ntmps4
  go_wp2_with fail
  refine (KT.out _ (Below.refl _ _)).mono ?_
  rintro e w1 ⟨a1, n1, c1, rfl, ho1, hb1⟩
  have I1 := Lib.hid (HIN.out _ _ _ _ _ ho1)
  have B1 := Lib.hid hb1
  clear ho1 hb1
  go_wp2_with fail
  refine (K1.out _ _ _ _ I1.out.1 I1.out.2.1 I1.out.2.2).mono ?_
  rintro e w2 ⟨a2, n2, c2, rfl, ho2, hb2⟩
  have R2 := Lib.hid (Row.of_owns (ho2.alloc (.cells #[.int .i64 cd, .slice a2 n2 c2] 26)))
  have VB := Lib.hid (Var2.new w2 26 cd (.slice a2 n2 c2))
  have B2 := Lib.hid ((below_then B1.out hb2).alloc (below_then B1.out hb2).size (.cells #[.int .i64 cd, .slice a2 n2 c2] 26))
  clear ho2 hb2
  go_wp2_with fail
  refine (KT.out _ B2.out).mono ?_
  rintro e w3 ⟨a3, n3, c3, rfl, ho3, hb3⟩
  have D3 := Lib.hid hb3
  have O3 := Lib.hid ho3
  have L3 := Lib.hid (owns_length ho3)
  have I3 := Lib.hid (HIN.out _ _ _ _ _ ho3)
  have hs3 : w2.heap.size + 1 ≤ w3.heap.size := by have := hb3.size; simpa using this
  clear ho3 hb3
  go_wp2_with fail
  refine (K2.out _ _ _ _ I3.out.1 I3.out.2.1 I3.out.2.2).mono ?_
  rintro e w4 ⟨a4, n4, c4, rfl, ho4, hb4⟩
  have hs4 : w3.heap.size ≤ w4.heap.size := hb4.size
  have D4 := Lib.hid ((below_then D3.out hb4).alloc (below_then D3.out hb4).size (.cells #[.int .i64 cd, .slice a4 n4 c4] 26))
  have O4 := Lib.hid (owns_below (owns_below O3.out hb4) (below1 w4 (.cells #[.int .i64 cd, .slice a4 n4 c4] 26)))
  have HOB := Lib.hid (fun k hk => (O3.out.lt k hk).2)
  have HOA := Lib.hid (fun k hk => (ho4.lt k hk).2)
  have L4 := Lib.hid (owns_length ho4)
  have G4 := Lib.hid (owns_below ho4 (below1 w4 (.cells #[.int .i64 cd, .slice a4 n4 c4] 26)))
  have VG := Lib.hid (Var2.new w4 26 cd (.slice a4 n4 c4))
  have V1 := VB.out.below D4.out
  have q0 := V1.lt
  have q1 := V1.c0
  have q2 := V1.c1
  clear ho4 hb4 V1
  go_wp2_with fail
  refine (eqBytesTrue cd _ _ ys _ (Row.of_owns G4.out) (R2.out.below D4.out)).mono ?_
  rintro e w5 ⟨rfl, hb5⟩
  have E5 := Lib.hid hb5
  clear hb5 q0 q1 q2
  go_wp2_with fail
  refine (KT.out _ (below_then B2.out (below_then D4.out E5.out))).mono ?_
  rintro e w6 ⟨a6, n6, c6, rfl, ho6, hb6⟩
  have E6 := Lib.hid (below_then E5.out hb6)
  have R6 := Lib.hid (Row.of_owns ho6)
  have O6 := Lib.hid (owns_below O4.out E6.out)
  clear ho6 hb6
  go_wp2_with fail
  refine (eqByteS_any _ _ xs xs _ (Row.of_owns O6.out) R6.out).mono ?_
  rw [decide_eq_true rfl]
  rintro e w7 ⟨rfl, nd, rfl⟩
  have E7 : Hid (Below (w4.alloc (.cells #[.int .i64 cd, .slice a4 n4 c4] 26)).heap.size (w4.alloc (.cells #[.int .i64 cd, .slice a4 n4 c4] 26)) (w6.drewN nd)) := Lib.hid (below_drewN E6.out nd)
  have O7 := Lib.hid (owns_below O4.out E7.out)
  generalize w6.drewN nd = w7 at *
  go_wp2_with fail
  refine (markByteS_any _ (.slice a3 n3 c3) n3 xs 1 w7 (by decide) (by have := L3.out; omega) O7.out).mono ?_
  rintro e w8 ⟨rfl, ho8, hg8⟩
  have D8 := Lib.hid ((below_then D4.out E7.out).grown hg8 (below_then D4.out E7.out).size (fun k hk => (O7.out.lt k hk).1))
  have V2 := Lib.hid ((VG.out.below E7.out).grown hg8 (fun e => by have := HOB.out _ e.symm; omega))
  have G8 := Lib.hid ((owns_below G4.out E7.out).kept hg8 (by
    cases hv : (Value.slice a4 n4 c4).ownBlock with
    | none => exact .inl rfl
    | some k =>
      refine .inr fun e => ?_
      have h1 := HOB.out k e.symm
      have h2 := (G4.out.lt k hv).1
      omega))
  have V1 := VB.out.below D8.out
  have q0 := V1.lt
  have q1 := V1.c0
  have q2 := V1.c1
  have q3 := V2.out.lt
  have q4 := V2.out.c0
  have q5 := V2.out.c1
  have hk0 : (0 : Int) ≤ ((1 + n3 : Nat) : Int) := by omega
  generalize ((1 + n3 : Nat) : Int) = kk at *
  clear ho8 hg8 V1
  go_wp2_with fail
  refine (eqBytesTrue cd _ _ ys _ (Row.of_owns G8.out) (R2.out.below D8.out)).mono ?_
  rintro e w9 ⟨rfl, hb9⟩
  have D9 := Lib.hid (below_then D8.out hb9)
  have V29 := V2.out.below hb9
  have G9 := Lib.hid (owns_below G8.out hb9)
  have HV := Lib.hid V29
  clear hb9 q0 q1 q2 q3 q4 q5 V29
  have q3 := HV.out.lt
  have q4 := HV.out.c0
  have q5 := HV.out.c1
  go_wp2_with fail
  refine (markBytes1 cd _ _ n4 ys _ (by have := L4.out; omega) G9.out).mono ?_
  rintro e w10 ⟨rfl, ho10, hg10⟩
  have D10 := Lib.hid (D9.out.grown hg10 D9.out.size (fun k hk => by have h1 := (G9.out.lt k hk).1; simp; omega))
  have V10 := Lib.hid (HV.out.grown hg10 (fun e => by have := HOA.out _ e.symm; omega))
  have M10 := Lib.hid (Row.of_owns ho10)
  have qn : (n4 : Int) ≤ 1152921504606846976 := by have := L4.out; omega
  clear ho10 hg10 q3 q4 q5
  have q3 := V10.out.lt
  have q4 := V10.out.c0
  have q5 := V10.out.c1
  go_wp2_with fail
  refine (heldBytes1 cd _ n4 w10 (by have := L4.out; omega) M10.out).mono ?_
  rintro e w11 ⟨rfl, hb11⟩
  have D11 := Lib.hid (below_then D10.out hb11)
  have V11 := Lib.hid (V10.out.below hb11)
  have KH := Lib.hid (fun (W : World) (hh : Below w11.heap.size w11 W) => heldBytes1 cd (.slice a4 n4 c4) n4 W (by have := L4.out; omega) ((M10.out.below hb11).below hh))
  clear hb11 q3 q4 q5
  go_wp2_with fail
  refine (KT.out _ (below_then B2.out D11.out)).mono ?_
  rintro e w12 ⟨a12, n12, c12, rfl, ho12, hb12⟩
  have F12 := Lib.hid hb12
  have I12 := Lib.hid (HIN.out _ _ _ _ _ ho12)
  clear ho12 hb12
  go_wp2_with fail
  refine (K2.out _ _ _ _ I12.out.1 I12.out.2.1 I12.out.2.2).mono ?_
  rintro e w13 ⟨a13, n13, c13, rfl, ho13, hb13⟩
  have F13 := Lib.hid ((below_then F12.out hb13).alloc (below_then F12.out hb13).size (.cells #[.int .i64 cd, .slice a13 n13 c13] 26))
  have R13 := Lib.hid (Row.of_owns (ho13.alloc (.cells #[.int .i64 cd, .slice a13 n13 c13] 26)))
  have V1 := VB.out.below (below_then D11.out F13.out)
  have q0 := V1.lt
  have q1 := V1.c0
  have q2 := V1.c1
  clear ho13 hb13 V1
  go_wp2_with fail
  refine (eqBytesTrue cd _ _ ys _ R13.out (R2.out.below (below_then D11.out F13.out))).mono ?_
  rintro e w14 ⟨rfl, hb14⟩
  have F14 := Lib.hid (below_then F13.out hb14)
  have V14 := V11.out.below F14.out
  have q3 := V14.lt
  have q4 := V14.c0
  have q5 := V14.c1
  clear hb14 q0 q1 q2 V14
  go_wp2_with fail
  refine (KH.out _ F14.out).mono ?_
  rintro e w15 ⟨rfl, hb15⟩
  have BB := Lib.hid (below_then (below_then B2.out (below_then D11.out F14.out)) hb15)
  clear hb15 q3 q4 q5
  go_wp2
  go_ret
  exact ⟨rfl, BB.out⟩

theorem fnExactSha1Of_walk (a : Option Addr) (n c : Nat) (xs : List Int) (w : World) (hr : InRow w a n c xs) :
    Calls Try.prog 4 #[.slice a n c] w fun e w' => e = .returned (.bool true) ∧ Below w.heap.size w w' := by
  by_cases hn : n ≤ 1048576
  · refine fnExactSha1Of_walk0 a n c xs w hn hr (shaCode xs) (shaBytes xs) ?_ (Lib.hid fun W a n c h1 h2 h3 => specSha1Of_any a n c xs W h1 h2 h3) (Lib.hid fun W a n c h1 h2 h3 => implSha1Of_any a n c xs W h1 h2 h3)
    unfold shaBytes
    split
    · simp
    · rw [shaL_length]; decide
  · have hmx := hr.max
    unfold maxLen at hmx
    go_enter Try.func4, Try.ntmps4
    go_wp2
    go_ret
    exact ⟨rfl, Below.refl _ _⟩
end Go.Proofs.Ytlhflkpbccbofaa
