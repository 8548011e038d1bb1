/- A code and a text: handed back. -/
import Derived.Test.YtcaknhoaoodbfaaGreatDoorGC0
import Derived.Test.YtcaknhoaoodbfaaGreatDoorGC9
import Derived.Test.YtcaknhoaoodbfaaGreatDoorGC22
namespace Go.Proofs.YtcaknhoaoodbfaaGreatDoor
open Go.ChangeShapes Go.WideShapes Go.ChangeAt Go.RowKit
set_option linter.unusedVariables false
/-- a struct of a code and a text is handed back -/
def TxtRes (w : World) (c : Int) (s : ByteArray) (e : Ending) (w' : World) : Prop := e = .returned (.agg #[.int .i64 c, .string s]) ∧ Below w.heap.size w w'
end Go.Proofs.YtcaknhoaoodbfaaGreatDoor

/- spec.l9Identity, spec.l9Text, spec.IdentityText. -/
namespace Go.Proofs.YtcaknhoaoodbfaaGreatDoor
open Go.ChangeShapes Go.WideShapes Go.ChangeAt Go.RowKit
set_option linter.unusedVariables false

set_option maxRecDepth 100000 in
set_option maxHeartbeats 3200000 in
theorem l9Identity_any (b o : Nat) (x : Ident) (w : World) (hs : SmallId x) (h : IdAt w b o x) :
    Calls Tryz.prog 102 #[.pointer (some ⟨b, o, none⟩)] w fun en w' => en = .returned (.bool (identB x)) ∧ Below w.heap.size w w' := by
  have d0 := h.c0
  have d1 := h.c1
  have d2 := h.c2
  have d3 := h.c3
  have hlt := h.lt
  have K1 := Lib.hid (fun W => l9Field_any x.cat false false W hs.1)
  have K2 := Lib.hid (fun W => l9Field_any x.kind false false W hs.2.1)
  have K3 := Lib.hid (fun W => l9Field_any x.lang true false W hs.2.2.1)
  have K4 := Lib.hid (fun W => l9Field_any x.name true true W hs.2.2.2)
  unfold identB
  obtain ⟨s, t, u, v⟩ := x
  dsimp only at d0 d1 d2 d3 K1 K2 K3 K4 ⊢
  generalize fieldB s false false = b1 at K1 ⊢
  generalize fieldB t false false = b2 at K2 ⊢
  generalize fieldB u true false = b3 at K3 ⊢
  generalize fieldB v true true = b4 at K4 ⊢
  clear h hs
  go_enter Tryz.func102, Tryz.ntmps102
  go_wp2_with fail
  refine (K1.out _).mono ?_
  rintro en w1 ⟨rfl, hb1⟩
  obtain ⟨hc1, hf1⟩ := bcell hb1
  have e1 : w1.cell? ⟨b, o + 1, none⟩ = some (.string t) := (hc1 _ _ hlt).trans d1
  have B1 := Lib.hid hb1
  clear hb1 hc1 hf1
  cases b1
  · go_wp2
    go_ret
    exact ⟨rfl, B1.out⟩
  go_wp2_with fail
  refine (K2.out _).mono ?_
  rintro en w2 ⟨rfl, hb2⟩
  have B2 := Lib.hid (below_then B1.out hb2)
  have e2 : w2.cell? ⟨b, o + 2, none⟩ = some (.string u) := ((bcell B2.out).1 _ _ hlt).trans d2
  clear hb2
  cases b2
  · go_wp2
    go_ret
    exact ⟨rfl, B2.out⟩
  go_wp2_with fail
  refine (K3.out _).mono ?_
  rintro en w3 ⟨rfl, hb3⟩
  have B3 := Lib.hid (below_then B2.out hb3)
  have e3 : w3.cell? ⟨b, o + 3, none⟩ = some (.string v) := ((bcell B3.out).1 _ _ hlt).trans d3
  clear hb3
  cases b3
  · go_wp2
    go_ret
    exact ⟨rfl, B3.out⟩
  go_wp2_with fail
  refine (K4.out _).mono ?_
  rintro en w4 ⟨rfl, hb4⟩
  have B4 := Lib.hid (below_then B3.out hb4)
  clear hb4
  cases b4
  all_goals
    go_wp2
    go_ret
    exact ⟨rfl, B4.out⟩

set_option maxHeartbeats 1600000 in
theorem l9Text_any (b o : Nat) (x : Ident) (w : World) (hs : SmallId x) (h : IdAt w b o x) :
    Calls Tryz.prog 103 #[.pointer (some ⟨b, o, none⟩)] w fun en w' => en = .returned (.string (identT x)) ∧ ∃ n, w' = w.drewN n := by
  have d0 := h.c0
  have d1 := h.c1
  have d2 := h.c2
  have d3 := h.c3
  obtain ⟨h1, h2, h3, h4⟩ := hs
  unfold identT slash
  obtain ⟨s, t, u, v⟩ := x
  dsimp only at d0 d1 d2 d3 h1 h2 h3 h4 ⊢
  clear h
  go_enter Tryz.func103, Tryz.ntmps103
  go_wp2_with fail
  go_quiet (fail)
  go_wp2
  go_ret
  exact ⟨rfl, _, rfl⟩

end Go.Proofs.YtcaknhoaoodbfaaGreatDoor
