/- impl.mayFollow, impl.isTree. -/
import Derived.Test.YtpafknmfacgccaaDoorImplItem2
import Derived.IntWalk
namespace Go.Proofs.YtpafknmfacgccaaDoor
open Go.ChangeShapes Go.WideShapes Go.ChangeAt Go.RowKit
set_option linter.unusedVariables false

theorem isText_yes (a : Addr) (w : World) : (Instr.typeAssert (.iface 144 (.agg #[.pointer (some a)])) 117 144 true).run Tryd.prog w = .ok (.tuple #[.agg #[.pointer (some a)], .bool true]) w := by kernel_rfl
theorem isText_no (a : Addr) (w : World) : (Instr.typeAssert (.iface 145 (.agg #[.pointer (some a)])) 117 144 true).run Tryd.prog w = .ok (.tuple #[.agg #[.pointer none], .bool false]) w := by kernel_rfl

set_option maxRecDepth 100000 in
set_option maxHeartbeats 3200000 in
theorem mayFollow_text (b o b' o' : Nat) (p x : It) (w : World) (h : ItAt w b o p) (h' : ItAt w b' o' x) (hp : p.name.toList.isEmpty = true) :
    Calls Tryd.prog 78 #[.pointer (some ⟨b, o, none⟩), .pointer (some ⟨b', o', none⟩)] w fun e w' => e = .returned (.bool (decide (x.depth < p.depth) || ((x.depth == p.depth) && !x.name.toList.isEmpty))) ∧ ∃ n, w' = w.drewN n := by
  have K := Lib.hid (partOf_text b o p w h hp)
  have e0 := h.c0
  have d0 := h'.c0
  have d3 := h'.c3
  clear h h'
  obtain ⟨xd, xt, xs, xn, xa⟩ := x
  obtain ⟨pd, pt, ps, pn, pa⟩ := p
  dsimp only at hp K e0 d0 d3 ⊢
  have hm := isText_yes
  by_cases h1 : xd < pd
  · have g1 : decide (xd < pd) = true := by simpa using h1
    go_enter Tryd.func78, Tryd.ntmps78
    go_wp2_with fail
    refine K.out.mono ?_
    rintro e w1 ⟨rfl, rfl⟩
    go_wp2_with fail
    go_quiet (fail)
    go_wp2
    go_ret
    exact ⟨ret_bool (by rw [g1]; rfl), _, rfl⟩
  · have g1 : decide (xd < pd) = false := by simpa using h1
    by_cases h2 : xd = pd
    · subst h2
      have g2 : (xd == xd) = true := by simp
      go_enter Tryd.func78, Tryd.ntmps78
      go_wp2_with fail
      refine K.out.mono ?_
      rintro e w1 ⟨rfl, rfl⟩
      go_wp2_with fail
      go_quiet (fail)
      go_wp2
      go_ret
      exact ⟨ret_bool (by rw [g1, g2]; simp), _, rfl⟩
    · have g2 : (xd == pd) = false := by simpa using h2
      clear h2
      go_enter Tryd.func78, Tryd.ntmps78
      go_wp2_with fail
      refine K.out.mono ?_
      rintro e w1 ⟨rfl, rfl⟩
      go_wp2_with fail
      go_quiet (fail)
      go_wp2
      go_ret
      exact ⟨ret_bool (by rw [g1, g2]; rfl), _, rfl⟩

set_option maxRecDepth 100000 in
set_option maxHeartbeats 3200000 in
theorem mayFollow_elem (b o b' o' : Nat) (p x : It) (w : World) (h : ItAt w b o p) (h' : ItAt w b' o' x) (hp : p.name.toList.isEmpty = false) (hd : 0 ≤ p.depth ∧ p.depth ≤ 6) :
    Calls Tryd.prog 78 #[.pointer (some ⟨b, o, none⟩), .pointer (some ⟨b', o', none⟩)] w fun e w' => e = .returned (.bool (decide (x.depth ≤ p.depth + 1))) ∧ ∃ n, w' = w.drewN n := by
  have K := Lib.hid (partOf_elem b o p w h hp)
  have e0 := h.c0
  have d0 := h'.c0
  clear h h'
  obtain ⟨xd, xt, xs, xn, xa⟩ := x
  obtain ⟨pd, pt, ps, pn, pa⟩ := p
  dsimp only at hp K e0 d0 hd ⊢
  have hm := isText_no
  have hw1 : IntKind.i64.wrap (pd + 1) = pd + 1 := IntWalk.i64_in _ (by omega)
  go_enter Tryd.func78, Tryd.ntmps78
  go_wp2_with fail
  refine K.out.mono ?_
  rintro e w1 ⟨rfl, rfl⟩
  go_wp2_with fail
  go_quiet (fail)
  go_wp2
  go_ret
  exact ⟨rfl, _, rfl⟩

theorem mayFollow_any (b o b' o' : Nat) (p x : It) (w : World) (h : ItAt w b o p) (h' : ItAt w b' o' x) (hd : 0 ≤ p.depth ∧ p.depth ≤ 6) :
    Calls Tryd.prog 78 #[.pointer (some ⟨b, o, none⟩), .pointer (some ⟨b', o', none⟩)] w fun e w' => e = .returned (.bool (followB x.depth p.depth x.name.toList.isEmpty p.name.toList.isEmpty)) ∧ ∃ n, w' = w.drewN n := by
  cases hp : p.name.toList.isEmpty
  · exact mayFollow_elem b o b' o' p x w h h' hp hd
  · exact mayFollow_text b o b' o' p x w h h' hp
end Go.Proofs.YtpafknmfacgccaaDoor
