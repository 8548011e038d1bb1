/- The methods placed, slices.Clone at attributes. -/
import Derived.Test.YtjkmgpomcnplnaaGreatDoorGS1
import Derived.Test.YtjkmgpomcnplnaaGreatDoorGS13
import Derived.Deep.RegionHeld3
namespace Go.Proofs.YtjkmgpomcnplnaaGreatDoor
open Go.ChangeShapes Go.WideShapes Go.ChangeAt Go.RowKit
set_option linter.unusedVariables false
theorem methPlacedT (a : Addr) (w : World) : (method 322 87 (.agg #[.pointer (some a)]) "loop.example/g00795/impl.placed").run Tryz.prog w = .ok (174, .agg #[.pointer (some a)]) w := by kernel_rfl
theorem methPlacedE (a : Addr) (w : World) : (method 322 88 (.agg #[.pointer (some a)]) "loop.example/g00795/impl.placed").run Tryz.prog w = .ok (176, .agg #[.pointer (some a)]) w := by kernel_rfl
theorem aheadT (a : Addr) (w : World) : (nilAhead 322 87 (.agg #[.pointer (some a)]) "loop.example/g00795/impl.placed").run Tryz.prog w = .ok (some false) w := by kernel_rfl
theorem aheadE (a : Addr) (w : World) : (nilAhead 322 88 (.agg #[.pointer (some a)]) "loop.example/g00795/impl.placed").run Tryz.prog w = .ok (some false) w := by kernel_rfl
def ItNewRes (w : World) (x : It) (e : Ending) (w' : World) : Prop := ∃ a n c, e = .returned (.agg #[.int .i64 x.depth, .string x.text, .string x.space, .string x.name, .slice a n c]) ∧ OwnAts w' w.heap.size w'.heap.size a n c x.attrs ∧ (a = none → c = 0) ∧ Below w.heap.size w w'
set_option maxHeartbeats 800000 in
theorem placedT_any (b o : Nat) (x : It) (d : Int) (w : World) (h : ItAt w b o x) :
    Calls Tryz.prog 174 #[.agg #[.pointer (some ⟨b, o, none⟩)], .int .i64 d] w (ItNewRes w ⟨d, x.text, ⟨#[]⟩, ⟨#[]⟩, []⟩) := by
  have d1 := h.c1
  have hlt := h.lt
  have hb1 : b < w.heap.size + 1 := by omega
  have hb2 : b < w.heap.size + 1 + 1 := by omega
  clear h
  obtain ⟨xd, xt, xs, xn, xa⟩ := x
  dsimp only at d1 ⊢
  go_enter Tryz.func174, Tryz.ntmps174
  go_wp2
  exact bodyPost_ret (v := .agg #[.int .i64 d, .string xt, .string ⟨#[]⟩, .string ⟨#[]⟩, .slice none 0 0]) (by simp [results, Tryz.results174, go_sem]; try rfl) rfl
    ⟨_, _, _, rfl, ⟨⟨rfl, by omega, (fun i => by simp [dAt]), .inl rfl⟩, .inl rfl⟩, (fun _ => rfl), below2 _ _ _⟩
theorem eqNilT (w : World) : (binOp .eql 49 (.slice none 0 0) (.slice none 0 0)).run Tryz.prog w = .ok (.bool true) w := by kernel_rfl
theorem eqNilF (x : Addr) (n c : Nat) (w : World) : (binOp .eql 49 (.slice (some x) n c) (.slice none 0 0)).run Tryz.prog w = .ok (.bool false) w := by kernel_rfl
def AtsCopy (w : World) (l : List At) (e : Ending) (w' : World) : Prop := ∃ a n c, e = .returned (.slice a n c) ∧ OwnAts w' w.heap.size w'.heap.size a n c l ∧ (a = none → c = 0) ∧ Below w.heap.size w w'
set_option maxRecDepth 100000 in
set_option maxHeartbeats 1600000 in
theorem cloneAts_any (a : Option Addr) (n c : Nat) (l : List At) (w : World) (hn : n ≤ 1048576) (hnil : a = none → c = 0) (h : AtsAt w a n c l) :
    Calls Tryz.prog 179 #[.slice a n c] w (AtsCopy w l) := by
  obtain ⟨i0, hi, hz0, hz1, hz2⟩ := info_parts attrInfo
  have HL := Lib.hid h.len
  have HAT := Lib.hid h
  clear h
  unfold AtsCopy
  cases a with
  | none =>
    obtain rfl : n = 0 := by
      rcases HAT.out.row with e | ⟨b5, o5, e5, _⟩
      · exact e
      · cases e5
    obtain rfl : c = 0 := hnil rfl
    obtain rfl : l = [] := List.length_eq_zero_iff.1 HL.out
    clear hnil HAT HL
    have hq := eqNilT
    go_enter Tryz.func179, Tryz.ntmps179
    go_wp2
    go_ret
    exact ⟨_, _, _, rfl, ⟨⟨rfl, by omega, (fun i => by simp [dAt]), .inl rfl⟩, .inl rfl⟩, (fun e => rfl), Below.refl _ _⟩
  | some ad =>
    clear hnil
    have hq := eqNilF
    have hl0 : (w.alloc (.cells #[] 52)).ownsRow w.heap.size 52 2 (.slice (some ⟨w.heap.size, 0, none⟩) 0 0) 0 [] := by
      have := World.ownsRow_lit (base := w.heap.size) (e := 52) (size := 2) w #[] 0 (Nat.le_refl _) (by unfold maxLen; omega) rfl
      simpa using this
    go_enter Tryz.func179, Tryz.ntmps179
    go_wp2_with (at_builtin; refine wpList_append_own_at _ rfl _ _ 49 rfl w.heap.size 52 i0 _ 2 32 Tryz.underlying49 hi hz0 hz1 hz2 rfl (by decide) _ 0 [] rfl hl0 ad n c (flatA l) rfl ?c6 ?c1 ?c2 ?c3 ?c4 ?c5 ?_)
    case c6 => rw [flatA_length, HL.out]
    case c1 => exact (HAT.out.below (below1 _ _)).flat
    case c2 => exact flatA_one l
    case c3 => unfold maxLen; omega
    case c4 => omega
    case c5 => simp
    intro v' w1 hown hgrow hnn hblk
    obtain ⟨a', c', rfl⟩ := owns_slice hown
    have HBLK := Lib.hid hblk
    have HOWN := Lib.hid hown
    have HB := Lib.hid ((below1 w (.cells #[] 52)).grown hgrow (by simp) (fun j hj => by simp [Value.ownBlock] at hj; omega))
    clear hown hgrow hblk hnn hl0
    go_wp2
    go_ret
    refine ⟨_, _, _, rfl, ownAts_of HOWN.out (by omega) HAT.out.size, ?_, HB.out⟩
    intro e
    subst e
    have := HBLK.out
    simp [Value.ownBlock] at this
theorem off5 {W : World} {R : Nat} {x0 x1 x2 x3 x4 : Value} {p : Addr} {v : Value} (h : W.cell? p = some v) (hn : p.block ≠ R) :
    (((((W.setCell ⟨R, 0, none⟩ x0).setCell ⟨R, 1, none⟩ x1).setCell ⟨R, 2, none⟩ x2).setCell ⟨R, 3, none⟩ x3).setCell ⟨R, 4, none⟩ x4).cell? p = some v := by
  have ho := ((((Only.set (P := fun i => i = R) W ⟨R, 0, none⟩ x0 rfl).trans (Only.set (P := fun i => i = R) _ ⟨R, 1, none⟩ x1 rfl)).trans (Only.set (P := fun i => i = R) _ ⟨R, 2, none⟩ x2 rfl)).trans (Only.set (P := fun i => i = R) _ ⟨R, 3, none⟩ x3 rfl)).trans (Only.set (P := fun i => i = R) _ ⟨R, 4, none⟩ x4 rfl)
  exact (ho.cell (World.block_lt_of_cell? W _ h) hn).trans h
theorem off5s {W : World} {R : Nat} {x0 x1 x2 x3 x4 : Value} {p q r s : Addr} {v1 v2 v3 v4 : Value} (h : W.cell? p = some v1 ∧ W.cell? q = some v2 ∧ W.cell? r = some v3 ∧ W.cell? s = some v4) (h1 : p.block ≠ R) (h2 : q.block ≠ R) (h3 : r.block ≠ R) (h4 : s.block ≠ R) :
    (((((W.setCell ⟨R, 0, none⟩ x0).setCell ⟨R, 1, none⟩ x1).setCell ⟨R, 2, none⟩ x2).setCell ⟨R, 3, none⟩ x3).setCell ⟨R, 4, none⟩ x4).cell? p = some v1 ∧ (((((W.setCell ⟨R, 0, none⟩ x0).setCell ⟨R, 1, none⟩ x1).setCell ⟨R, 2, none⟩ x2).setCell ⟨R, 3, none⟩ x3).setCell ⟨R, 4, none⟩ x4).cell? q = some v2 ∧ (((((W.setCell ⟨R, 0, none⟩ x0).setCell ⟨R, 1, none⟩ x1).setCell ⟨R, 2, none⟩ x2).setCell ⟨R, 3, none⟩ x3).setCell ⟨R, 4, none⟩ x4).cell? r = some v3 ∧ (((((W.setCell ⟨R, 0, none⟩ x0).setCell ⟨R, 1, none⟩ x1).setCell ⟨R, 2, none⟩ x2).setCell ⟨R, 3, none⟩ x3).setCell ⟨R, 4, none⟩ x4).cell? s = some v4 :=
  ⟨off5 h.1 h1, off5 h.2.1 h2, off5 h.2.2.1 h3, off5 h.2.2.2 h4⟩
set_option maxRecDepth 100000 in
set_option maxHeartbeats 400000 in
theorem placedE_any (b o : Nat) (x : It) (d : Int) (w : World) (hn : x.attrs.length ≤ 1048576) (a4 : Option Addr) (n c4 : Nat) (hc4 : w.cell? ⟨b, o + 4, none⟩ = some (.slice a4 n c4)) (hnil : a4 = none → c4 = 0) (hat : AtsAt w a4 n c4 x.attrs) (h : ItAt w b o x) :
    Calls Tryz.prog 176 #[.agg #[.pointer (some ⟨b, o, none⟩)], .int .i64 d] w (ItNewRes w ⟨d, ⟨#[]⟩, x.space, x.name, x.attrs⟩) := by
  have d2 := h.c2
  have d3 := h.c3
  have hlt := h.lt
  have hb1 : b < w.heap.size + 1 := by omega
  have hb2 : b < w.heap.size + 1 + 1 := by omega
  have hn' : n ≤ 1048576 := by have := hat.len; omega
  have K := Lib.hid (fun W (hb : Below w.heap.size w W) => cloneAts_any a4 n c4 x.attrs W hn' hnil (hat.below hb))
  clear h hat hnil
  obtain ⟨xd, xt, xs, xn, xa⟩ := x
  dsimp only at d2 d3 K hn ⊢
  unfold AtsCopy at K
  unfold ItNewRes
  go_enter Tryz.func176, Tryz.ntmps176
  go_wp2_with fail
  have hBW := below2 w (.cells #[.pointer (some ⟨b, o, none⟩)] 88) (.cells #[.int .i64 0, .string ⟨#[]⟩, .string ⟨#[]⟩, .string ⟨#[]⟩, .slice none 0 0] 54)
  have p0 : ((w.alloc (.cells #[.pointer (some ⟨b, o, none⟩)] 88)).alloc (.cells #[.int .i64 0, .string ⟨#[]⟩, .string ⟨#[]⟩, .string ⟨#[]⟩, .slice none 0 0] 54)).cell? ⟨w.heap.size, 0, none⟩ = some (.pointer (some ⟨b, o, none⟩)) := by go_simp
  have d2 := (hBW.cell (p := ⟨b, o + 2, none⟩) hlt).trans d2
  have d3 := (hBW.cell (p := ⟨b, o + 3, none⟩) hlt).trans d3
  have d4 := (hBW.cell (p := ⟨b, o + 4, none⟩) hlt).trans hc4
  have hsz : ((w.alloc (.cells #[.pointer (some ⟨b, o, none⟩)] 88)).alloc (.cells #[.int .i64 0, .string ⟨#[]⟩, .string ⟨#[]⟩, .string ⟨#[]⟩, .slice none 0 0] 54)).heap.size = w.heap.size + 2 := by simp
  have hcs : (∀ i, i < 5 → ∃ v, ((w.alloc (.cells #[.pointer (some ⟨b, o, none⟩)] 88)).alloc (.cells #[.int .i64 0, .string ⟨#[]⟩, .string ⟨#[]⟩, .string ⟨#[]⟩, .slice none 0 0] 54)).cell? ⟨w.heap.size + 1, i, none⟩ = some v ∧ ((w.alloc (.cells #[.pointer (some ⟨b, o, none⟩)] 88)).alloc (.cells #[.int .i64 0, .string ⟨#[]⟩, .string ⟨#[]⟩, .string ⟨#[]⟩, .slice none 0 0] 54)).frozen? ⟨w.heap.size + 1, i, none⟩ = false) := fun i hi => by
    match i, hi with
    | 0, _ => exact ⟨.int .i64 0, by go_simp, by go_simp⟩
    | 1, _ => exact ⟨.string ⟨#[]⟩, by go_simp, by go_simp⟩
    | 2, _ => exact ⟨.string ⟨#[]⟩, by go_simp, by go_simp⟩
    | 3, _ => exact ⟨.string ⟨#[]⟩, by go_simp, by go_simp⟩
    | 4, _ => exact ⟨.slice none 0 0, by go_simp, by go_simp⟩
  clear hc4
  generalize (w.alloc (.cells #[.pointer (some ⟨b, o, none⟩)] 88)).alloc (.cells #[.int .i64 0, .string ⟨#[]⟩, .string ⟨#[]⟩, .string ⟨#[]⟩, .slice none 0 0] 54) = W0 at hBW p0 d2 d3 d4 hsz hcs ⊢
  obtain ⟨v0, r0, f0⟩ := hcs 0 (by omega)
  obtain ⟨v1, r1, f1⟩ := hcs 1 (by omega)
  obtain ⟨v2, r2, f2⟩ := hcs 2 (by omega)
  obtain ⟨v3, r3, f3⟩ := hcs 3 (by omega)
  obtain ⟨v4, r4, f4⟩ := hcs 4 (by omega)
  have HBW := Lib.hid hBW
  have hR : w.heap.size + 1 < W0.heap.size := by omega
  have KD : Hid (Calls Tryz.prog 179 #[.slice a4 n c4] W0.drew fun e w' => ∃ a n c, e = .returned (.slice a n c) ∧ OwnAts w' W0.heap.size w'.heap.size a n c xa ∧ (a = none → c = 0) ∧ Below W0.heap.size W0 w') := Lib.hid ((K.out W0.drew HBW.out.drew).mono fun e w' ⟨a, n, c, h1, h2, h3, h4⟩ => ⟨a, n, c, h1, h2, h3, below_of_drew h4⟩)
  have HC : Hid (∀ W, Below W0.heap.size W0 W → (W.cell? ⟨w.heap.size, 0, none⟩ = some (.pointer (some ⟨b, o, none⟩)) ∧ W.cell? ⟨b, o + 2, none⟩ = some (.string xs) ∧ W.cell? ⟨b, o + 3, none⟩ = some (.string xn) ∧ W.cell? ⟨b, o + 4, none⟩ = some (.slice a4 n c4))) := Lib.hid fun W hb =>
    ⟨(hb.cell (World.block_lt_of_cell? _ _ p0)).trans p0, (hb.cell (World.block_lt_of_cell? _ _ d2)).trans d2, (hb.cell (World.block_lt_of_cell? _ _ d3)).trans d3, (hb.cell (World.block_lt_of_cell? _ _ d4)).trans d4⟩
  have HF : Hid (∀ W, Below W0.heap.size W0 W → (W.cell? ⟨w.heap.size + 1, 0, none⟩ = some v0 ∧ W.frozen? ⟨w.heap.size + 1, 0, none⟩ = false ∧ W.cell? ⟨w.heap.size + 1, 1, none⟩ = some v1 ∧ W.frozen? ⟨w.heap.size + 1, 1, none⟩ = false ∧ W.cell? ⟨w.heap.size + 1, 2, none⟩ = some v2 ∧ W.frozen? ⟨w.heap.size + 1, 2, none⟩ = false ∧ W.cell? ⟨w.heap.size + 1, 3, none⟩ = some v3 ∧ W.frozen? ⟨w.heap.size + 1, 3, none⟩ = false ∧ W.cell? ⟨w.heap.size + 1, 4, none⟩ = some v4 ∧ W.frozen? ⟨w.heap.size + 1, 4, none⟩ = false)) := Lib.hid fun W hb =>
    ⟨(hb.cell (by exact hR)).trans r0, (hb.frozen (by exact hR)).trans f0, (hb.cell (by exact hR)).trans r1, (hb.frozen (by exact hR)).trans f1, (hb.cell (by exact hR)).trans r2, (hb.frozen (by exact hR)).trans f2, (hb.cell (by exact hR)).trans r3, (hb.frozen (by exact hR)).trans f3, (hb.cell (by exact hR)).trans r4, (hb.frozen (by exact hR)).trans f4⟩
  clear hBW hcs r0 f0 r1 f1 r2 f2 r3 f3 r4 f4 K hb1 hb2
  have hn0 : (⟨w.heap.size, 0, none⟩ : Addr).block ≠ w.heap.size + 1 := by show w.heap.size ≠ _; omega
  have hn2 : (⟨b, o + 2, none⟩ : Addr).block ≠ w.heap.size + 1 := by show b ≠ _; omega
  have hn3 : (⟨b, o + 3, none⟩ : Addr).block ≠ w.heap.size + 1 := by show b ≠ _; omega
  have hn4 : (⟨b, o + 4, none⟩ : Addr).block ≠ w.heap.size + 1 := by show b ≠ _; omega
  have hS0 : W0.drew.cell? ⟨w.heap.size, 0, none⟩ = some (.pointer (some ⟨b, o, none⟩)) ∧ W0.drew.cell? ⟨b, o + 2, none⟩ = some (.string xs) ∧ W0.drew.cell? ⟨b, o + 3, none⟩ = some (.string xn) ∧ W0.drew.cell? ⟨b, o + 4, none⟩ = some (.slice a4 n c4) := ⟨p0, d2, d3, d4⟩
  clear p0 d2 d3 d4
  first | (go_region_held3 (fun W => W.cell? ⟨w.heap.size, 0, none⟩ = some (.pointer (some ⟨b, o, none⟩)) ∧ W.cell? ⟨b, o + 2, none⟩ = some (.string xs) ∧ W.cell? ⟨b, o + 3, none⟩ = some (.string xn) ∧ W.cell? ⟨b, o + 4, none⟩ = some (.slice a4 n c4)) (first | with_reducible assumption | with_reducible exact HC.out _ hb | with_reducible exact off5s (by with_reducible assumption) hn0 hn2 hn3 hn4)
      (first
        | (go_at_call 179; ((with_reducible refine KD.out.mono ?_)); rintro e w1 ⟨a1, n1, c1, rfl, ho, hnil1, hb⟩; obtain ⟨r0, f0, r1, f1, r2, f2, r3, f3, r4, f4⟩ := HF.out _ hb))) | fail
  have HO := Lib.hid ho
  have HN := Lib.hid hnil1
  have HB := Lib.hid hb
  have hz := hb.size
  clear ho hnil1 hb hS0
  go_wp2
  refine bodyPost_ret (v := .agg #[.int .i64 d, .string ⟨#[]⟩, .string xs, .string xn, .slice a1 n1 c1]) (by simp [results, Tryz.results176, go_sem, r0, r1, r2, r3, r4]) rfl ⟨_, _, _, rfl, ?_, HN.out, ?_⟩
  · have hsw : ∀ y, a1 = some y → n1 ≠ 0 → ¬ (y.block = w.heap.size + 1) := fun y hy hne hq => by
      have := HO.out.in hy hne
      omega
    have st : ∀ (W : World) (p : Addr) (v : Value), p.block = w.heap.size + 1 → OwnAts W w.heap.size w1.heap.size a1 n1 c1 xa → OwnAts (W.setCell p v) w.heap.size w1.heap.size a1 n1 c1 xa := fun W p v hp h =>
      h.only (Only.set (P := fun i => i = w.heap.size + 1) W p v hp) hsw
    have h0 : OwnAts w1 w.heap.size w1.heap.size a1 n1 c1 xa := ⟨HO.out.ats, HO.out.own.imp id fun ⟨b, h1, h2, h3, h4⟩ => ⟨b, h1, by omega, h3, h4⟩⟩
    have := st _ ⟨w.heap.size + 1, 4, none⟩ (.slice a1 n1 c1) rfl (st _ ⟨w.heap.size + 1, 3, none⟩ (.string xn) rfl (st _ ⟨w.heap.size + 1, 2, none⟩ (.string xs) rfl (st _ ⟨w.heap.size + 1, 1, none⟩ (.string ⟨#[]⟩) rfl (st _ ⟨w.heap.size + 1, 0, none⟩ (.int .i64 d) rfl h0))))
    simpa using this
  · have hbw := below_then HBW.out HB.out
    exact ((((hbw.setCell (by show w.heap.size ≤ _; simp) _).setCell (by show w.heap.size ≤ _; simp) _).setCell (by show w.heap.size ≤ _; simp) _).setCell (by show w.heap.size ≤ _; simp) _).setCell (by show w.heap.size ≤ _; simp) _
end Go.Proofs.YtjkmgpomcnplnaaGreatDoor
