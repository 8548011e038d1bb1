/- Presences: what they are, in plain words. -/
import Derived.Test.YtjkmgpomcnplnaaGreatDoorGS0
import Derived.Test.YtjkmgpomcnplnaaGreatDoorGS7
import Derived.Test.YtjkmgpomcnplnaaGreatDoorGS5
import Derived.Test.YtjkmgpomcnplnaaGreatDoorGS2
import Derived.Deep.RegionHeld3
namespace Go.Proofs.YtjkmgpomcnplnaaGreatDoor
open Go.ChangeShapes Go.WideShapes Go.ChangeAt Go.RowKit
set_option linter.unusedVariables false
structure Pr where
  kind : Int
  sender : ByteArray
  goal : ByteArray
  shown : Int
  status : ByteArray
  prio : Int
  more : List It
structure PrAt (w : World) (b : Nat) (p : Pr) (a : Option Addr) (n c : Nat) : Prop where
  lt : b < w.heap.size
  c0 : w.cell? ⟨b, 0, none⟩ = some (.int .i64 p.kind)
  c1 : w.cell? ⟨b, 1, none⟩ = some (.string p.sender)
  c2 : w.cell? ⟨b, 2, none⟩ = some (.string p.goal)
  c3 : w.cell? ⟨b, 3, none⟩ = some (.int .i64 p.shown)
  c4 : w.cell? ⟨b, 4, none⟩ = some (.string p.status)
  c5 : w.cell? ⟨b, 5, none⟩ = some (.int .i64 p.prio)
  c6 : w.cell? ⟨b, 6, none⟩ = some (.slice a n c)
theorem PrAt.below {w w' : World} {b : Nat} {p : Pr} {a : Option Addr} {n c : Nat} (h : PrAt w b p a n c) (hb : Below w.heap.size w w') : PrAt w' b p a n c :=
  ⟨Nat.lt_of_lt_of_le h.lt hb.size, (hb.cell (by exact h.lt)).trans h.c0, (hb.cell (by exact h.lt)).trans h.c1, (hb.cell (by exact h.lt)).trans h.c2, (hb.cell (by exact h.lt)).trans h.c3, (hb.cell (by exact h.lt)).trans h.c4, (hb.cell (by exact h.lt)).trans h.c5, (hb.cell (by exact h.lt)).trans h.c6⟩
theorem PrAt.new (w : World) (t : TypeId) (p : Pr) (a : Option Addr) (n c : Nat) : PrAt (w.alloc (.cells #[.int .i64 p.kind, .string p.sender, .string p.goal, .int .i64 p.shown, .string p.status, .int .i64 p.prio, .slice a n c] t)) w.heap.size p a n c :=
  ⟨by simp, by simp, by simp, by simp, by simp, by simp, by simp, by simp⟩
structure SmallPr (p : Pr) : Prop where
  texts : p.sender.size ≤ 1048576 ∧ p.goal.size ≤ 1048576 ∧ p.status.size ≤ 1048576
  more : SmallIts p.more
structure PrSize (p : Pr) : Prop where
  s1 : p.sender.size ≤ 9223372036854775807
  s2 : p.goal.size ≤ 9223372036854775807
  s4 : p.status.size ≤ 9223372036854775807
structure PrD (y : Pr) : Prop where
  kind : -1000 ≤ y.kind ∧ y.kind ≤ 1000
  sender : y.sender.size ≤ 61
  goal : y.goal.size ≤ 61
  shown : -1000 ≤ y.shown ∧ y.shown ≤ 1000
  status : y.status.size ≤ 61
  prio : -1000 ≤ y.prio ∧ y.prio ≤ 1000
  few : y.more.length ≤ 60
  more : ∀ i, DrawnIt (y.more.getD i dIt)
structure D7 (w V W : World) (b : Nat) (a : Option Addr) (n c : Nat) (xs : List Int) (k : Nat) (x : Nat) (v0 v1 v2 v3 v4 v5 v6 : Value) : Prop where
  hb : b < w.heap.size
  hx : w.heap.size < x
  res : X7 W w.heap.size (.int .i64 0) (.string ⟨#[]⟩) (.string ⟨#[]⟩) (.int .i64 0) (.string ⟨#[]⟩) (.int .i64 0) (.slice none 0 0)
  box : X7 W x v0 v1 v2 v3 v4 v5 v6
  src : Src W b a n c xs k
  gr : w.grownBy W (some b)
  on : Only (fun i => i = b ∨ i = w.heap.size ∨ i = x ∨ V.heap.size ≤ i) V W
theorem D7.init {w V : World} {b : Nat} {a : Option Addr} {n c : Nat} {xs : List Int} {k : Nat} (T : TypeId) (v0 v1 v2 v3 v4 v5 v6 : Value) (hb : b < w.heap.size) (hr : X7 V w.heap.size (.int .i64 0) (.string ⟨#[]⟩) (.string ⟨#[]⟩) (.int .i64 0) (.string ⟨#[]⟩) (.int .i64 0) (.slice none 0 0)) (hs : Src V b a n c xs k) (hg : w.grownBy V (some b)) :
    D7 w V (V.alloc (.cells #[v0, v1, v2, v3, v4, v5, v6] T)) b a n c xs k V.heap.size v0 v1 v2 v3 v4 v5 v6 :=
  have hB := below1 V (.cells #[v0, v1, v2, v3, v4, v5, v6] T)
  ⟨hb, hr.lt, hr.below hB, X7.new V T v0 v1 v2 v3 v4 v5 v6, hs.below hB, step_below hg hB, Only.below hB⟩
theorem D7.call {w V W : World} {b : Nat} {a : Option Addr} {n c : Nat} {xs : List Int} {k : Nat} {x : Nat} {v0 v1 v2 v3 v4 v5 v6 : Value} {W' : World} {k' : Nat} (h : D7 w V W b a n c xs k x v0 v1 v2 v3 v4 v5 v6) (hs : Src W' b a n c xs k') (hg : W.grownBy W' (some b)) : D7 w V W' b a n c xs k' x v0 v1 v2 v3 v4 v5 v6 := by
  have hb := h.hb
  have hx := h.hx
  exact ⟨hb, hx, h.res.grown hg (by intro e; injection e with e; omega), h.box.grown hg (by intro e; injection e with e; omega), hs, grown_trans_row h.gr hg, h.on.trans ((Only.grown hg).mono fun i e => .inl (by simpa using e))⟩
theorem D7.below {w V W : World} {b : Nat} {a : Option Addr} {n c : Nat} {xs : List Int} {k : Nat} {x : Nat} {v0 v1 v2 v3 v4 v5 v6 : Value} {W' : World} (h : D7 w V W b a n c xs k x v0 v1 v2 v3 v4 v5 v6) (hb : Below W.heap.size W W') : D7 w V W' b a n c xs k x v0 v1 v2 v3 v4 v5 v6 := h.call (h.src.below hb) (grown_of_below hb _)
theorem D7.set {w V W : World} {b : Nat} {a : Option Addr} {n c : Nat} {xs : List Int} {k : Nat} {x : Nat} {v0 v1 v2 v3 v4 v5 v6 : Value} {u0 u1 u2 u3 u4 u5 u6 : Value} (h : D7 w V W b a n c xs k x v0 v1 v2 v3 v4 v5 v6) (i : Nat) (v : Value) (hi : i < 7)
    (hu : (if i = 0 then v else v0) = u0 ∧ (if i = 1 then v else v1) = u1 ∧ (if i = 2 then v else v2) = u2 ∧ (if i = 3 then v else v3) = u3 ∧ (if i = 4 then v else v4) = u4 ∧ (if i = 5 then v else v5) = u5 ∧ (if i = 6 then v else v6) = u6) : D7 w V (W.setCell ⟨x, i, none⟩ v) b a n c xs k x u0 u1 u2 u3 u4 u5 u6 := by
  obtain ⟨rfl, rfl, rfl, rfl, rfl, rfl, rfl⟩ := hu
  have hb := h.hb
  have hx := h.hx
  exact ⟨hb, hx, h.res.off (by show x ≠ _; omega) _, h.box.set i v hi, h.src.grown (grown_set W ⟨x, i, none⟩ v) (fun j e => by cases e; show b < x; omega), grown_mix h.gr (grown_set W ⟨x, i, none⟩ v) (fun g e => by cases e; show _ ≤ x; omega), h.on.trans (Only.set W ⟨x, i, none⟩ v (.inr (.inr (.inl rfl))))⟩
theorem D7.done {w V W : World} {b : Nat} {a : Option Addr} {n c : Nat} {xs : List Int} {k : Nat} {x : Nat} {v0 v1 v2 v3 v4 v5 v6 : Value} (h : D7 w V W b a n c xs k x v0 v1 v2 v3 v4 v5 v6) :
    X7 (((((((W.setCell ⟨w.heap.size, 0, none⟩ v0).setCell ⟨w.heap.size, 1, none⟩ v1).setCell ⟨w.heap.size, 2, none⟩ v2).setCell ⟨w.heap.size, 3, none⟩ v3).setCell ⟨w.heap.size, 4, none⟩ v4).setCell ⟨w.heap.size, 5, none⟩ v5).setCell ⟨w.heap.size, 6, none⟩ v6) w.heap.size v0 v1 v2 v3 v4 v5 v6 ∧ Src (((((((W.setCell ⟨w.heap.size, 0, none⟩ v0).setCell ⟨w.heap.size, 1, none⟩ v1).setCell ⟨w.heap.size, 2, none⟩ v2).setCell ⟨w.heap.size, 3, none⟩ v3).setCell ⟨w.heap.size, 4, none⟩ v4).setCell ⟨w.heap.size, 5, none⟩ v5).setCell ⟨w.heap.size, 6, none⟩ v6) b a n c xs k ∧ w.grownBy (((((((W.setCell ⟨w.heap.size, 0, none⟩ v0).setCell ⟨w.heap.size, 1, none⟩ v1).setCell ⟨w.heap.size, 2, none⟩ v2).setCell ⟨w.heap.size, 3, none⟩ v3).setCell ⟨w.heap.size, 4, none⟩ v4).setCell ⟨w.heap.size, 5, none⟩ v5).setCell ⟨w.heap.size, 6, none⟩ v6) (some b) ∧ Only (fun i => i = b ∨ i = w.heap.size ∨ i = x ∨ V.heap.size ≤ i) V (((((((W.setCell ⟨w.heap.size, 0, none⟩ v0).setCell ⟨w.heap.size, 1, none⟩ v1).setCell ⟨w.heap.size, 2, none⟩ v2).setCell ⟨w.heap.size, 3, none⟩ v3).setCell ⟨w.heap.size, 4, none⟩ v4).setCell ⟨w.heap.size, 5, none⟩ v5).setCell ⟨w.heap.size, 6, none⟩ v6) := by
  have hb := h.hb
  have st : ∀ (W' : World) (i : Nat) (v : Value), (Src W' b a n c xs k ∧ w.grownBy W' (some b) ∧ Only (fun i => i = b ∨ i = w.heap.size ∨ i = x ∨ V.heap.size ≤ i) V W') → (Src (W'.setCell ⟨w.heap.size, i, none⟩ v) b a n c xs k ∧ w.grownBy (W'.setCell ⟨w.heap.size, i, none⟩ v) (some b) ∧ Only (fun i => i = b ∨ i = w.heap.size ∨ i = x ∨ V.heap.size ≤ i) V (W'.setCell ⟨w.heap.size, i, none⟩ v)) := fun W' i v ⟨h1, h2, h3⟩ =>
    ⟨h1.grown (grown_set W' ⟨w.heap.size, i, none⟩ v) (fun j e => by cases e; exact hb), grown_mix h2 (grown_set W' ⟨w.heap.size, i, none⟩ v) (fun g e => by cases e; exact Nat.le_refl _), h3.trans (Only.set W' ⟨w.heap.size, i, none⟩ v (.inr (.inl rfl)))⟩
  exact ⟨h.res.fill v0 v1 v2 v3 v4 v5 v6, st _ 6 _ (st _ 5 _ (st _ 4 _ (st _ 3 _ (st _ 2 _ (st _ 1 _ (st _ 0 _ ⟨h.src, h.gr, h.on⟩))))))⟩
theorem D7.its {w V W : World} {b x : Nat} {v : Value} {n B : Nat} {l : List It} {A : Nat → Option Addr} {N C : Nat → Nat} (hg : GrowIts V B v n l A N C) (ho : Only (fun i => i = b ∨ i = w.heap.size ∨ i = x ∨ V.heap.size ≤ i) V W) (hb : b < w.heap.size) (hB : w.heap.size < B) (hx : x < B ∨ V.heap.size ≤ x) : GrowIts W w.heap.size v n l A N C :=
  (hg.onlyP ho (fun i h1 h2 hp => by rcases hp with e | e | e | e <;> omega)).base (by omega)
theorem D7.fill {w V W : World} {b : Nat} {a : Option Addr} {n c : Nat} {xs : List Int} {k : Nat} {x : Nat} {v0 v1 v2 v3 v4 v5 v6 : Value} (h : D7 w V W b a n c xs k x v0 v1 v2 v3 v4 v5 v6) (u0 u1 u2 u3 u4 u5 u6 : Value) :
    D7 w V (((((((W.setCell ⟨x, 0, none⟩ u0).setCell ⟨x, 1, none⟩ u1).setCell ⟨x, 2, none⟩ u2).setCell ⟨x, 3, none⟩ u3).setCell ⟨x, 4, none⟩ u4).setCell ⟨x, 5, none⟩ u5).setCell ⟨x, 6, none⟩ u6) b a n c xs k x u0 u1 u2 u3 u4 u5 u6 :=
  ((((((h.set 0 u0 (by decide) ⟨rfl, rfl, rfl, rfl, rfl, rfl, rfl⟩).set 1 u1 (by decide) ⟨rfl, rfl, rfl, rfl, rfl, rfl, rfl⟩).set 2 u2 (by decide) ⟨rfl, rfl, rfl, rfl, rfl, rfl, rfl⟩).set 3 u3 (by decide) ⟨rfl, rfl, rfl, rfl, rfl, rfl, rfl⟩).set 4 u4 (by decide) ⟨rfl, rfl, rfl, rfl, rfl, rfl, rfl⟩).set 5 u5 (by decide) ⟨rfl, rfl, rfl, rfl, rfl, rfl, rfl⟩).set 6 u6 (by decide) ⟨rfl, rfl, rfl, rfl, rfl, rfl, rfl⟩
def WAt (w : World) (nb k : Nat) (f : Nat → ByteArray) : Prop := ∀ r, r < k → w.cell? ⟨nb, r, none⟩ = some (.string (f r))
theorem wat_new (w : World) (arr : Array Value) (e : TypeId) (m k : Nat) (hall : (List.range k).all (fun r => isWord m arr[r]?) = true) :
    ∃ f : Nat → ByteArray, WAt (w.alloc (.cells arr e)) w.heap.size k f ∧ ∀ r, r < k → (f r).size ≤ m := by
  have h := words_of (Below.refl (w.alloc (.cells arr e)).heap.size (w.alloc (.cells arr e))) m k hall
  refine ⟨fun r => if hr : r < k then (h r hr).choose else ByteArray.empty, fun r hr => ?_, fun r hr => ?_⟩
  · simp only [hr, dif_pos]
    exact (h r hr).choose_spec.1
  · simp only [hr, dif_pos]
    exact (h r hr).choose_spec.2
theorem wAtG {w w' : World} {nb k : Nat} {f : Nat → ByteArray} {row : Option Nat} (h : WAt w nb k f) (hg : w.grownBy w' row) (hne : some nb ≠ row) : WAt w' nb k f := fun r hr => hg.cell (h r hr) hne
theorem wAtS {w : World} {nb k : Nat} {f : Nat → ByteArray} (h : WAt w nb k f) {x : Nat} (hx : nb ≠ x) (i : Nat) (u : Value) : WAt (w.setCell ⟨x, i, none⟩ u) nb k f := fun r hr => (World.cell?_setCell_other _ _ _ _ (fun e => hx (congrArg Addr.block e).symm)).trans (h r hr)
theorem wpAnyH_mono {P : Program} {md : Region.Mode} {ops : Array Oper} {Q : Exit → Act → World → Prop} {S S' : World → Prop} (hS : ∀ w, S' w → S w) : ∀ (fuel : Nat) (listed : Array Bool) (a : Act) (w : World), wpAnyH P md ops Q S' fuel listed a w → wpAnyH P md ops Q S fuel listed a w
  | 0, _, _, _, h => h
  | fuel + 1, _, _, _, h => ⟨h.1, fun i hi => wpOp_mono (fun a' w' h' => ⟨hS _ h'.1, wpAnyH_mono hS fuel _ a' w' h'.2⟩) (h.2 i hi)⟩
end Go.Proofs.YtjkmgpomcnplnaaGreatDoor
