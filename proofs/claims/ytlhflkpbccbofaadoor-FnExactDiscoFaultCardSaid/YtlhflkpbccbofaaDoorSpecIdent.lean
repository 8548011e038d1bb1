/- spec.l9Identity, spec.l9Text, spec.IdentityText. -/
import Derived.Test.YtlhflkpbccbofaaDoorDis
import Derived.Test.YtlhflkpbccbofaaDoorSpecField
import Derived.Test.YtlhflkpbccbofaaDoorTxt
namespace Go.Proofs.YtlhflkpbccbofaaDoor
open Go.ChangeShapes Go.WideShapes Go.ChangeAt Go.RowKit
set_option linter.unusedVariables false

set_option maxRecDepth 100000 in
set_option maxHeartbeats 3200000 in
theorem l9Identity_any (b o : Nat) (x : Ident) (w : World) (hs : SmallId x) (h : IdAt w b o x) :
    Calls Tryd.prog 20 #[.pointer (some ⟨b, o, none⟩)] w fun en w' => en = .returned (.bool (identB x)) ∧ Below w.heap.size w w' := by
  have d0 := h.c0
  have d1 := h.c1
  have d2 := h.c2
  have d3 := h.c3
  have hlt := h.lt
  have K1 := Lib.hid (fun W => l9Field_any x.cat false false W hs.1)
  have K2 := Lib.hid (fun W => l9Field_any x.kind false false W hs.2.1)
  have K3 := Lib.hid (fun W => l9Field_any x.lang true false W hs.2.2.1)
  have K4 := Lib.hid (fun W => l9Field_any x.name true true W hs.2.2.2)
  unfold identB
  obtain ⟨s, t, u, v⟩ := x
  dsimp only at d0 d1 d2 d3 K1 K2 K3 K4 ⊢
  generalize fieldB s false false = b1 at K1 ⊢
  generalize fieldB t false false = b2 at K2 ⊢
  generalize fieldB u true false = b3 at K3 ⊢
  generalize fieldB v true true = b4 at K4 ⊢
  clear h hs
  go_enter Tryd.func20, Tryd.ntmps20
  go_wp2_with fail
  refine (K1.out _).mono ?_
  rintro en w1 ⟨rfl, hb1⟩
  obtain ⟨hc1, hf1⟩ := bcell hb1
  have e1 : w1.cell? ⟨b, o + 1, none⟩ = some (.string t) := (hc1 _ _ hlt).trans d1
  have B1 := Lib.hid hb1
  clear hb1 hc1 hf1
  cases b1
  · go_wp2
    go_ret
    exact ⟨rfl, B1.out⟩
  go_wp2_with fail
  refine (K2.out _).mono ?_
  rintro en w2 ⟨rfl, hb2⟩
  have B2 := Lib.hid (below_then B1.out hb2)
  have e2 : w2.cell? ⟨b, o + 2, none⟩ = some (.string u) := ((bcell B2.out).1 _ _ hlt).trans d2
  clear hb2
  cases b2
  · go_wp2
    go_ret
    exact ⟨rfl, B2.out⟩
  go_wp2_with fail
  refine (K3.out _).mono ?_
  rintro en w3 ⟨rfl, hb3⟩
  have B3 := Lib.hid (below_then B2.out hb3)
  have e3 : w3.cell? ⟨b, o + 3, none⟩ = some (.string v) := ((bcell B3.out).1 _ _ hlt).trans d3
  clear hb3
  cases b3
  · go_wp2
    go_ret
    exact ⟨rfl, B3.out⟩
  go_wp2_with fail
  refine (K4.out _).mono ?_
  rintro en w4 ⟨rfl, hb4⟩
  have B4 := Lib.hid (below_then B3.out hb4)
  clear hb4
  cases b4
  all_goals
    go_wp2
    go_ret
    exact ⟨rfl, B4.out⟩

set_option maxHeartbeats 1600000 in
theorem l9Text_any (b o : Nat) (x : Ident) (w : World) (hs : SmallId x) (h : IdAt w b o x) :
    Calls Tryd.prog 32 #[.pointer (some ⟨b, o, none⟩)] w fun en w' => en = .returned (.string (identT x)) ∧ ∃ n, w' = w.drewN n := by
  have d0 := h.c0
  have d1 := h.c1
  have d2 := h.c2
  have d3 := h.c3
  obtain ⟨h1, h2, h3, h4⟩ := hs
  unfold identT slash
  obtain ⟨s, t, u, v⟩ := x
  dsimp only at d0 d1 d2 d3 h1 h2 h3 h4 ⊢
  clear h
  go_enter Tryd.func32, Tryd.ntmps32
  go_wp2_with fail
  go_quiet (fail)
  go_wp2
  go_ret
  exact ⟨rfl, _, rfl⟩

set_option maxHeartbeats 1600000 in
theorem specIdentityText_any (x : Ident) (w : World) (hs : SmallId x) :
    Calls Tryd.prog 12 #[.agg #[.string x.cat, .string x.kind, .string x.lang, .string x.name]] w (TxtRes w (idCode x) (idText x)) := by
  have hx : IdAt (w.alloc (.cells #[.string x.cat, .string x.kind, .string x.lang, .string x.name] 40)) w.heap.size 0 x := ⟨by simp, by simp, by simp, by simp, by simp⟩
  have K1 := Lib.hid (fun W (hb : Below (w.heap.size + 1) (w.alloc (.cells #[.string x.cat, .string x.kind, .string x.lang, .string x.name] 40)) W) => l9Identity_any w.heap.size 0 x W hs (hx.below (hb.mono (by simp))))
  have K2 := Lib.hid (fun W (hb : Below (w.heap.size + 1) (w.alloc (.cells #[.string x.cat, .string x.kind, .string x.lang, .string x.name] 40)) W) => l9Text_any w.heap.size 0 x W hs (hx.below (hb.mono (by simp))))
  have H0 : Hid (identB x = false → idCode x = 5 ∧ idText x = ByteArray.empty) := Lib.hid (fun h => by unfold idCode idText; simp [h])
  have H1 : Hid (identB x = true → idCode x = 0 ∧ idText x = identT x) := Lib.hid (fun h => by unfold idCode idText; simp [h])
  unfold TxtRes
  generalize idCode x = cd at H0 H1 ⊢
  generalize idText x = tx at H0 H1 ⊢
  generalize identB x = bb at K1 H0 H1
  generalize identT x = it at K2 H1
  clear hx
  obtain ⟨s, t, u, v⟩ := x
  dsimp only at K1 K2 ⊢
  have B0 := below2 w (.cells #[.string s, .string t, .string u, .string v] 40) (.cells #[.int .i64 0, .string { data := #[] }] 38)
  have B00 : Below (w.heap.size + 1) (w.alloc (.cells #[.string s, .string t, .string u, .string v] 40)) ((w.alloc (.cells #[.string s, .string t, .string u, .string v] 40)).alloc (.cells #[.int .i64 0, .string { data := #[] }] 38)) := (Below.refl _ _).alloc (by simp) _
  cases bb
  · obtain ⟨rfl, rfl⟩ := H0.out rfl
    clear H0 H1
    go_enter Tryd.func12, Tryd.ntmps12
    go_wp2_with fail
    refine (K1.out _ B00).mono ?_
    rintro en w1 ⟨rfl, hb1⟩
    obtain ⟨hc1, hf1⟩ := bcell hb1
    have hz : w.heap.size + 1 < w1.heap.size := by have := hb1.size; simp at this; omega
    have B1 := Lib.hid (below_then B0 hb1)
    clear hb1
    go_wp2
    exact bodyPost_ret (v := .agg #[.int .i64 5, .string ByteArray.empty]) (by simp [results, Tryd.results12, go_sem, hc1]; rfl) rfl ⟨rfl, (B1.out.setCell (by simp) _).setCell (by simp) _⟩
  · obtain ⟨rfl, rfl⟩ := H1.out rfl
    clear H0 H1
    go_enter Tryd.func12, Tryd.ntmps12
    go_wp2_with fail
    refine (K1.out _ B00).mono ?_
    rintro en w1 ⟨rfl, hb1⟩
    have B11 := Lib.hid (B00.trans (hb1.mono (by simp)))
    have HB1 := Lib.hid hb1
    clear hb1
    go_wp2_with fail
    refine (K2.out _ B11.out).mono ?_
    rintro en w2 ⟨rfl, nd, rfl⟩
    have hbx := below_drewN HB1.out nd
    generalize w1.drewN nd = w2 at hbx ⊢
    obtain ⟨hc1, hf1⟩ := bcell hbx
    have hz : w.heap.size + 1 < w2.heap.size := by have := hbx.size; simp at this; omega
    have B1 := Lib.hid (below_then B0 hbx)
    clear hbx
    go_wp2
    exact bodyPost_ret (v := .agg #[.int .i64 0, .string tx]) (by simp [results, Tryd.results12, go_sem, hc1]) rfl ⟨rfl, (B1.out.setCell (by simp) _).setCell (by simp) _⟩
end Go.Proofs.YtlhflkpbccbofaaDoor
