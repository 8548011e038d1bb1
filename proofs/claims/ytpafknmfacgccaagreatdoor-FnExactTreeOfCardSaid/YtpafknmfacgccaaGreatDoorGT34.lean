/- eqTreeResult, markTreeResult, heldTreeResult. -/
import Derived.Test.YtpafknmfacgccaaGreatDoorGT33
import Derived.Test.YtpafknmfacgccaaGreatDoorGT1
namespace Go.Proofs.YtpafknmfacgccaaGreatDoor
open Go.ChangeShapes Go.WideShapes Go.ChangeAt Go.RowKit
set_option linter.unusedVariables false

set_option maxHeartbeats 800000 in
theorem eqTreeResult_true (cd : Int) (a a' : Option Addr) (n n' c c' : Nat) (l : List It) (w : World) (h : ItsAt w a n c l) (h' : ItsAt w a' n' c' l) :
    Calls Tryz.prog 32 #[.agg #[.int .i64 cd, .slice a n c], .agg #[.int .i64 cd, .slice a' n' c']] w fun e w' => e = .returned (.bool true) ∧ Below w.heap.size w w' := by
  have K := Lib.hid (fun W (hb : Below w.heap.size w W) => eqItemS_true a a' n n' c c' l W (h.below hb) (h'.below hb))
  clear h h'
  go_enter Tryz.func32, Tryz.ntmps32
  go_wp2_with fail
  refine (K.out _ (below2 _ _ _)).mono ?_
  rintro e w1 ⟨rfl, hb⟩
  go_wp2
  go_ret
  exact ⟨rfl, below_then (below2 _ _ _) hb⟩

set_option maxHeartbeats 800000 in
theorem markTreeResult_any (cd : Int) (lo hi : Nat) (a : Option Addr) (n c k : Nat) (l : List It) (w : World) (h0 : 0 < k) (hK : kAt k l n ≤ 10000000000000000) (hA : ∀ i, i < n → (l.getD i dIt).attrs.length ≤ 1048576) (h : OwnIts w lo hi a n c l) :
    Calls Tryz.prog 35 #[.agg #[.int .i64 cd, .slice a n c], .int .i64 k] w (MarkIts w lo hi a n c k l) := by
  have K := Lib.hid (fun W (hb : Below w.heap.size w W) => markItemS_any lo hi a n c k l W h0 hK hA (h.below hb))
  clear h hK hA
  go_enter Tryz.func35, Tryz.ntmps35
  go_wp2_with fail
  refine (K.out _ (below1 _ _)).mono ?_
  rintro e w1 ⟨rfl, hown, ho⟩
  go_wp2
  go_ret
  exact ⟨rfl, hown, (Only.below (below1 _ _)).trans ho⟩

set_option maxHeartbeats 800000 in
theorem heldTreeResult_any (cd : Int) (a : Option Addr) (n c k : Nat) (l : List It) (w : World) (h0 : 0 < k) (hK : kAt k l n ≤ 10000000000000000) (hA : ∀ i, i < n → (l.getD i dIt).attrs.length ≤ 1048576) (hlen : l.length = n) (h : ItsAt w a n c (markIts k l)) :
    Calls Tryz.prog 36 #[.agg #[.int .i64 cd, .slice a n c], .int .i64 k] w fun e w' => e = .returned (.int .i64 ((kAt k l n : Nat) : Int)) ∧ Below w.heap.size w w' := by
  have K := Lib.hid (fun W (hb : Below w.heap.size w W) => heldItemS_any a n c k l W h0 hK hA hlen (h.below hb))
  have hk0 : (0 : Int) ≤ ((kAt k l n : Nat) : Int) := by omega
  generalize kAt k l n = m at K hk0
  clear h hK hA
  go_enter Tryz.func36, Tryz.ntmps36
  go_wp2_with fail
  refine (K.out _ (below1 _ _)).mono ?_
  rintro e w1 ⟨rfl, hb⟩
  go_wp2
  go_ret
  exact ⟨rfl, below_then (below1 _ _) hb⟩
end Go.Proofs.YtpafknmfacgccaaGreatDoor

/- markPresence. -/
namespace Go.Proofs.YtpafknmfacgccaaGreatDoor
open Go.ChangeShapes Go.WideShapes Go.ChangeAt Go.RowKit
set_option linter.unusedVariables false

theorem Var2.only {P : Nat → Prop} {w w1 : World} {b : Nat} {cd : Int} {v : Value} (h : Var2 w b cd v) (ho : Only P w w1) (hn : ¬ P b) : Var2 w1 b cd v :=
  ⟨Nat.lt_of_lt_of_le h.lt ho.size, (ho.cell (by exact h.lt) hn).trans h.c0, (ho.cell (by exact h.lt) hn).trans h.c1⟩
theorem kAt_many (k : Nat) (l : List It) (h : ∀ i, (l.getD i dIt).attrs.length ≤ 1048576) : ∀ n, kAt k l n ≤ k + 2097156 * n
  | 0 => Nat.le_refl _
  | n + 1 => by
    have h1 := kAt_many k l h n
    have h2 := h n
    show kAt k l n + 4 + 2 * _ ≤ _
    omega
set_option maxRecDepth 100000 in
set_option maxHeartbeats 1600000 in
theorem markPresence_any (pk : Int) (pf pt : ByteArray) (ps : Int) (pu : ByteArray) (pp : Int) (lo hi : Nat) (a : Option Addr) (n c k : Nat) (l : List It) (w : World) (h0 : 0 < k) (hK : kAt k l n ≤ 10000000000000000) (hA : ∀ i, i < n → (l.getD i dIt).attrs.length ≤ 1048576) (h : OwnIts w lo hi a n c l) :
    Calls Tryz.prog 34 #[.agg #[.int .i64 pk, .string pf, .string pt, .int .i64 ps, .string pu, .int .i64 pp, .slice a n c], .int .i64 k] w (MarkIts w lo hi a n c k l) := by
  have K := Lib.hid (fun W (hb : Below w.heap.size w W) => markItemS_any lo hi a n c k l W h0 hK hA (h.below hb))
  clear h hK hA
  go_enter Tryz.func34, Tryz.ntmps34
  go_wp2_with fail
  refine (K.out _ (below1 _ _)).mono ?_
  rintro e w1 ⟨rfl, hown, ho⟩
  go_wp2
  go_ret
  exact ⟨rfl, hown, (Only.below (below1 _ _)).trans ho⟩
end Go.Proofs.YtpafknmfacgccaaGreatDoor
