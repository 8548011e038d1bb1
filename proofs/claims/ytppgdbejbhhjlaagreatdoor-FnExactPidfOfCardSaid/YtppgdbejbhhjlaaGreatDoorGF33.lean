/- impl.pidfElement, basicWords, activityWords, shareOf. -/
import Derived.Test.YtppgdbejbhhjlaaGreatDoorGF12
import Derived.Test.YtppgdbejbhhjlaaGreatDoorGF30
import Derived.Test.YtppgdbejbhhjlaaGreatDoorGF32
import Derived.Test.YtppgdbejbhhjlaaGreatDoorGF0
import Derived.Deep.RegionHeld3
namespace Go.Proofs.YtppgdbejbhhjlaaGreatDoor
open Go.ChangeShapes Go.WideShapes Go.ChangeAt Go.RowKit
set_option linter.unusedVariables false
set_option linter.unusedSimpArgs false

set_option maxHeartbeats 800000 in
theorem pidfElement_any (d : Int) (nm : ByteArray) (a : Option Addr) (n c : Nat) (w : World) :
    Calls Tryz.prog 142 #[.int .i64 d, .string nm, .slice a n c] w fun e w' => e = .returned (.agg #[.int .i64 d, .string ⟨#[]⟩, .string ⟨#[117, 114, 110, 58, 105, 101, 116, 102, 58, 112, 97, 114, 97, 109, 115, 58, 120, 109, 108, 58, 110, 115, 58, 112, 105, 100, 102]⟩, .string nm, .slice a n c]) ∧ Below w.heap.size w w' := by
  go_enter Tryz.func142, Tryz.ntmps142
  go_wp2
  exact bodyPost_ret (v := .agg #[.int .i64 d, .string ⟨#[]⟩, .string ⟨#[117, 114, 110, 58, 105, 101, 116, 102, 58, 112, 97, 114, 97, 109, 115, 58, 120, 109, 108, 58, 110, 115, 58, 112, 105, 100, 102]⟩, .string nm, .slice a n c]) (by simp [results, Tryz.results142, go_sem]) rfl ⟨rfl, below1 w _⟩
theorem basicWords_any (w : World) : Calls Tryz.prog 143 #[] w fun e w' =>
    e = .returned (.slice (some ⟨w.heap.size, 0, none⟩) 2 2) ∧ Below w.heap.size w w' ∧ w'.cell? ⟨w.heap.size, 0, none⟩ = some (.string ⟨#[111, 112, 101, 110]⟩) ∧ w'.cell? ⟨w.heap.size, 1, none⟩ = some (.string ⟨#[99, 108, 111, 115, 101, 100]⟩) := by
  go_enter Tryz.func143, Tryz.ntmps143
  go_wp2
  go_ret
  refine ⟨rfl, below1 _ _, ?_, ?_⟩ <;> simp
theorem activityWords_any (w : World) : Calls Tryz.prog 144 #[] w fun e w' =>
    e = .returned (.slice (some ⟨w.heap.size, 0, none⟩) 4 4) ∧ Below w.heap.size w w' ∧ w'.cell? ⟨w.heap.size, 1, none⟩ = some (.string ⟨#[97, 119, 97, 121]⟩) ∧ w'.cell? ⟨w.heap.size, 3, none⟩ = some (.string ⟨#[98, 117, 115, 121]⟩) := by
  go_enter Tryz.func144, Tryz.ntmps144
  go_wp2
  go_ret
  refine ⟨rfl, below1 _ _, ?_, ?_⟩ <;> simp
theorem field_ivalP (c v : Int) (W : World) : (Instr.field 156 (.agg #[.int .i64 c, .int .i64 v]) 1).run Tryz.prog W = .ok (.int .i64 v) W := by kernel_rfl
theorem shareOf_any (n : Int) (w : World) (hT : Pows w) : Calls Tryz.prog 145 #[.int .i64 n] w fun e w' => e = .returned (.string (shareText (thouVal n))) ∧ Below w.heap.size w w' := by
  have K1 := Lib.hid (implThousandthsOf_any n w)
  have K2 := Lib.hid (fun W (hb : Below w.heap.size w W) => implShareText_any (thouVal n) W (hT.below hb))
  unfold Res2 at K1
  unfold TxtRes at K2
  generalize thouCode n = tc at K1
  generalize thouVal n = tv at K1 K2 ⊢
  generalize shareCode tv = sc at K2
  generalize shareText tv = st at K2 ⊢
  have h1 := fun W => field_ivalP tc tv W
  have h2 := fun W => field_text sc st W
  clear hT
  go_enter Tryz.func145, Tryz.ntmps145
  go_wp2_with fail
  refine K1.out.mono ?_
  rintro e w1 ⟨rfl, hb1⟩
  have B1 := Lib.hid hb1
  clear hb1
  go_wp2_with fail
  refine (K2.out _ B1.out).mono ?_
  rintro e w2 ⟨rfl, hb2⟩
  have B2 := Lib.hid (below_then B1.out hb2)
  clear hb2
  go_wp2
  go_ret
  exact ⟨rfl, B2.out⟩
end Go.Proofs.YtppgdbejbhhjlaaGreatDoor

/- A region walked by hand: the condition may be made stronger on the way. -/
namespace Go.Proofs.YtppgdbejbhhjlaaGreatDoor
open Go.ChangeShapes Go.WideShapes Go.ChangeAt Go.RowKit
set_option linter.unusedVariables false
theorem wpAnyH_mono {P : Program} {md : Region.Mode} {ops : Array Oper} {Q : Exit → Act → World → Prop} {S S' : World → Prop} (hS : ∀ w, S' w → S w) : ∀ (fuel : Nat) (listed : Array Bool) (a : Act) (w : World), wpAnyH P md ops Q S' fuel listed a w → wpAnyH P md ops Q S fuel listed a w
  | 0, _, _, _, h => h
  | fuel + 1, _, _, _, h => ⟨h.1, fun i hi => wpOp_mono (fun a' w' h' => ⟨hS _ h'.1, wpAnyH_mono hS fuel _ a' w' h'.2⟩) (h.2 i hi)⟩
end Go.Proofs.YtppgdbejbhhjlaaGreatDoor
