/- spec.l4Same, spec.SameTrees. -/
import Derived.Test.YtjkmgpomcnplnaaGreatDoorGS0
namespace Go.Proofs.YtjkmgpomcnplnaaGreatDoor
open Go.ChangeShapes Go.WideShapes Go.ChangeAt Go.RowKit
set_option linter.unusedVariables false
theorem toList_inj {s t : ByteArray} (h : s.toList = t.toList) : s = t := by
  rw [ByteArray.toList_eq, ByteArray.toList_eq] at h
  exact bytes_inj h
theorem toList_ne {s t : ByteArray} (h : s ≠ t) : (s.toList == t.toList) = false := by rw [beq_eq_false_iff_ne]; exact fun e => h (toList_inj e)
set_option maxRecDepth 100000 in
set_option maxHeartbeats 1600000 in
theorem l4Same_d (b o b' o' : Nat) (x y : It) (w : World) (h : ItAt w b o x) (h' : ItAt w b' o' y)  (hne : x.depth ≠ y.depth) :
    Calls Tryz.prog 81 #[.pointer (some ⟨b, o, none⟩), .pointer (some ⟨b', o', none⟩)] w fun e w' => e = .returned (.bool false) ∧ ∃ n, w' = w.drewN n := by
  have d0 := h.c0
  have e0 := h'.c0
  obtain ⟨xd, xt, xs, xn, xa⟩ := x
  obtain ⟨yd, yt, ys, yn, ya⟩ := y
  dsimp only at hne d0 e0
  have q1 : (xd != yd) = true := by simpa using hne
  have q2 : (xd == yd) = false := by simpa using hne
  clear h h' hne
  go_enter Tryz.func81, Tryz.ntmps81
  go_wp2_with fail
  go_quiet (fail)
  go_wp2
  go_ret
  exact ⟨rfl, _, rfl⟩
set_option maxRecDepth 100000 in
set_option maxHeartbeats 1600000 in
theorem l4Same_t (b o b' o' : Nat) (x y : It) (w : World) (h : ItAt w b o x) (h' : ItAt w b' o' y) (hd : x.depth = y.depth) (hne : x.text ≠ y.text) :
    Calls Tryz.prog 81 #[.pointer (some ⟨b, o, none⟩), .pointer (some ⟨b', o', none⟩)] w fun e w' => e = .returned (.bool false) ∧ ∃ n, w' = w.drewN n := by
  have d0 := h.c0
  have e0 := h'.c0
  have d1 := h.c1
  have e1 := h'.c1
  obtain ⟨xd, xt, xs, xn, xa⟩ := x
  obtain ⟨yd, yt, ys, yn, ya⟩ := y
  dsimp only at hd hne d0 e0 d1 e1
  subst hd
  have q0 : (xd != xd) = false := by simp
  have q1 := toList_ne hne
  clear h h' hne
  go_enter Tryz.func81, Tryz.ntmps81
  go_wp2_with fail
  go_quiet (fail)
  go_wp2
  go_ret
  exact ⟨rfl, _, rfl⟩
set_option maxRecDepth 100000 in
set_option maxHeartbeats 1600000 in
theorem l4Same_s (b o b' o' : Nat) (x y : It) (w : World) (h : ItAt w b o x) (h' : ItAt w b' o' y) (hd : x.depth = y.depth) (ht : x.text = y.text) (hne : x.space ≠ y.space) :
    Calls Tryz.prog 81 #[.pointer (some ⟨b, o, none⟩), .pointer (some ⟨b', o', none⟩)] w fun e w' => e = .returned (.bool false) ∧ ∃ n, w' = w.drewN n := by
  have d0 := h.c0
  have e0 := h'.c0
  have d1 := h.c1
  have e1 := h'.c1
  have d2 := h.c2
  have e2 := h'.c2
  obtain ⟨xd, xt, xs, xn, xa⟩ := x
  obtain ⟨yd, yt, ys, yn, ya⟩ := y
  dsimp only at hd ht hne d0 e0 d1 e1 d2 e2
  subst hd
  subst ht
  have q0 : (xd != xd) = false := by simp
  have q1 := toList_ne hne
  clear h h' hne
  go_enter Tryz.func81, Tryz.ntmps81
  go_wp2_with fail
  go_quiet (fail)
  go_wp2
  go_ret
  exact ⟨rfl, _, rfl⟩
set_option maxRecDepth 100000 in
set_option maxHeartbeats 1600000 in
theorem l4Same_n (b o b' o' : Nat) (x y : It) (w : World) (h : ItAt w b o x) (h' : ItAt w b' o' y) (hd : x.depth = y.depth) (ht : x.text = y.text) (hs : x.space = y.space) (hne : x.name ≠ y.name) :
    Calls Tryz.prog 81 #[.pointer (some ⟨b, o, none⟩), .pointer (some ⟨b', o', none⟩)] w fun e w' => e = .returned (.bool false) ∧ ∃ n, w' = w.drewN n := by
  have d0 := h.c0
  have e0 := h'.c0
  have d1 := h.c1
  have e1 := h'.c1
  have d2 := h.c2
  have e2 := h'.c2
  have d3 := h.c3
  have e3 := h'.c3
  obtain ⟨xd, xt, xs, xn, xa⟩ := x
  obtain ⟨yd, yt, ys, yn, ya⟩ := y
  dsimp only at hd ht hs hne d0 e0 d1 e1 d2 e2 d3 e3
  subst hd
  subst ht
  subst hs
  have q0 : (xd != xd) = false := by simp
  have q1 := toList_ne hne
  clear h h' hne
  go_enter Tryz.func81, Tryz.ntmps81
  go_wp2_with fail
  go_quiet (fail)
  go_wp2
  go_ret
  exact ⟨rfl, _, rfl⟩
set_option maxRecDepth 100000 in
set_option maxHeartbeats 1600000 in
theorem l4Same_l (b o b' o' : Nat) (x y : It) (w : World) (h : ItAt w b o x) (h' : ItAt w b' o' y) (hd : x.depth = y.depth) (ht : x.text = y.text) (hs : x.space = y.space) (hn : x.name = y.name) (hne : x.attrs.length ≠ y.attrs.length) :
    Calls Tryz.prog 81 #[.pointer (some ⟨b, o, none⟩), .pointer (some ⟨b', o', none⟩)] w fun e w' => e = .returned (.bool false) ∧ ∃ n, w' = w.drewN n := by
  have d0 := h.c0
  have e0 := h'.c0
  have d1 := h.c1
  have e1 := h'.c1
  have d2 := h.c2
  have e2 := h'.c2
  have d3 := h.c3
  have e3 := h'.c3
  obtain ⟨a4, n4, c4, d4, hat⟩ := h.c4
  obtain ⟨a5, n5, c5, e4, hat'⟩ := h'.c4
  have m4 := hat.max
  have m5 := hat'.max
  have hnn : n4 ≠ n5 := by rw [← hat.len, ← hat'.len]; exact hne
  clear hat hat'
  obtain ⟨xd, xt, xs, xn, xa⟩ := x
  obtain ⟨yd, yt, ys, yn, ya⟩ := y
  dsimp only at hd ht hs hn d0 e0 d1 e1 d2 e2 d3 e3
  subst hd
  subst ht
  subst hs
  subst hn
  have q0 : (xd != xd) = false := by simp
  have q1 : ((n4 : Int) != (n5 : Int)) = true := by rw [bne_iff_ne]; omega
  have q2 : ((n4 : Int) == (n5 : Int)) = false := by rw [beq_eq_false_iff_ne]; omega
  clear h h' hne hnn
  go_enter Tryz.func81, Tryz.ntmps81
  go_wp2_with fail
  go_quiet (fail)
  go_wp2
  go_ret
  exact ⟨rfl, _, rfl⟩
end Go.Proofs.YtjkmgpomcnplnaaGreatDoor
