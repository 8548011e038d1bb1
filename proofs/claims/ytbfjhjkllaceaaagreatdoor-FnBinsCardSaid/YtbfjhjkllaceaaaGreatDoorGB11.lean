/- Texts laid together, part 11. -/
import Derived.Test.YtbfjhjkllaceaaaGreatDoorGB10
import Derived.Deep.RegionHeld3

/- The draw of a frame. -/
namespace Go.Proofs.YtbfjhjkllaceaaaGreatDoor
open Go.ChangeShapes Go.WideShapes Go.ChangeAt Go.RowKit
set_option linter.unusedVariables false

/-- bytes are drawn of a code -/
def TopFrame (w : World) (e : Ending) (w' : World) : Prop := ∃ (a' : Option Addr) (n' c' : Nat) (ys : List Int), e = .returned (.slice a' n' c') ∧ Row w' .u8 (.slice a' n' c') ys ∧ n' = ys.length ∧ n' ≤ 60000 ∧ (∀ i, 0 ≤ ys.getD i 0 ∧ ys.getD i 0 ≤ 255) ∧ Below w.heap.size w w'
set_option maxRecDepth 100000 in
set_option maxHeartbeats 800000 in
theorem drawUnpackTree_any (a : Option Addr) (n c : Nat) (xs : List Int) (w : World) (h : CodeAt w a n c xs) :
    Calls Tryz.prog 8 #[.slice a n c] w (TopFrame w) := by
  obtain ⟨i0, hi, hz0, hz1, hz2⟩ := info_parts u8Info
  have HC := Lib.hid h
  unfold TopFrame
  clear h
  have KN := Lib.hid (fun (k : Nat) (m : Int) (hm0 : 1 ≤ m) (hm : m ≤ 1000000000) (hk : k < 1000000) (W : World) (h : Src W w.heap.size a n c xs k) => l1Next_any w.heap.size a n c xs k m hm0 hm hk W h)
  unfold NextRes at KN
  go_enter Tryz.func8, Tryz.ntmps8
  go_wp2_with fail
  refine (source_any HC.out).mono ?_
  rintro e w1 ⟨rfl, hs1, hb1⟩
  have S1 := Lib.hid hs1
  have B1 := Lib.hid hb1
  have KT := Lib.hid (l4Draw_any w.heap.size a n c xs 0 8 (by decide) (by decide) (by decide) _ hs1)
  unfold TreeDrawn at KT
  simp only [show ((8 : Nat) : Int) = 8 from rfl] at KT
  clear hs1 hb1
  go_wp2_with fail
  refine KT.out.mono ?_
  rintro e w2 ⟨x, m, q, l, A, N, C, k2, rfl, hg2, hm1, hm8, hD, hk2, hs2, hgr2⟩
  have hblt : w.heap.size < w2.heap.size := hs2.lt
  have HI := Lib.hid (hg2.own (by omega) (drawn_sizes hD m)).its
  have hll : l.length ≤ 8 := by have := hg2.g.len; omega
  have HGD : Hid (∀ x ∈ l, GoodIt x) := Lib.hid (fun x hx => by
    obtain ⟨i, hi, rfl⟩ := List.getElem_of_mem hx
    have := (hD i).good
    rwa [List.getD_eq_getElem?_getD, List.getElem?_eq_getElem hi] at this)
  have S2 := Lib.hid hs2
  have B2 := Lib.hid (below_step B1.out hgr2 (Nat.le_refl _))
  clear hg2 hD hs2 hgr2
  go_wp2_with fail
  refine (l6Pack_any x m q l w2 (by omega) HGD.out HI.out).mono ?_
  rintro e w3 ⟨a3, n3, c3, rfl, ho3, hb3⟩
  have hn3 := owns_length ho3
  have hp1 := packL_pos l
  have hp2 := packL_length l (by omega) HGD.out
  have HY := Lib.hid (getD_all (P := fun y => 0 ≤ y ∧ y ≤ 255) (l := packL l) (fun y hy => by have := packL_bytes l y hy; omega) (by decide))
  generalize packL l = ys at ho3 hn3 hp1 hp2 HY
  obtain ⟨g, cap, cur, hv, hgb, _, hcap, _⟩ := ho3.2.resolve_left (by omega)
  simp only [Value.slice.injEq] at hv
  obtain ⟨rfl, _, rfl⟩ := hv
  have hna : 1 ≤ n3 := by omega
  have hnb : n3 ≤ 50000 := by omega
  have HN := Lib.hid hn3
  have O3 := Lib.hid ho3
  clear hn3 hp1 hp2
  have S3 := Lib.hid (S2.out.below hb3)
  have B3 := Lib.hid (below_then B2.out hb3)
  clear ho3 hb3
  go_wp2_with fail
  refine (KN.out k2 6 (by decide) (by decide) (by omega) _ S3.out).mono ?_
  rintro e w4 ⟨z, rfl, hz, hs4, hg4⟩
  have hz := hz (by decide)
  have O4 := Lib.hid (row_grown O3.out hg4 hblt)
  have S4 := Lib.hid hs4
  have B4 := Lib.hid (below_step B3.out hg4 (Nat.le_refl _))
  clear hs4 hg4
  have hzn : (0 : Int) ≤ (z : Int) := by omega
  generalize (z : Int) = t at hz hzn ⊢
  by_cases t0 : t = 0
  · subst t0
    go_wp2_with fail
    refine (KN.out (k2 + 1) n3 (by omega) (by omega) (by omega) _ S4.out).mono ?_
    rintro e w5 ⟨r, rfl, hr, hs5, hg5⟩
    have hr := hr (by omega)
    have hrn : r < n3 := by omega
    have O5 := Lib.hid (row_grown O4.out hg5 hblt)
    have S5 := Lib.hid hs5
    have B5 := Lib.hid (below_step B4.out hg5 (Nat.le_refl _))
    have hs5z : w.heap.size < w5.heap.size := hs5.lt
    clear hs5 hg5
    go_wp2_with fail
    refine (l1Pick_any w.heap.size a n c xs (k2 + 1 + 1) w5.heap.size 6 _ rfl (by decide) (by decide) (by omega) _ (S5.out.alloc _) (lit_row w5 _ .i64 [0, 1, 2, 3, 128, 255] 6 rfl (by decide)) (by omega)).mono ?_
    rintro e w6 ⟨d, rfl, hdm, hs6, hg6⟩
    have O6 := Lib.hid (row_grown (owns_below O5.out (below1 w5 _)) hg6 hblt)
    have B6 := Lib.hid (below_step (below_then B5.out (below1 w5 _)) hg6 (Nat.le_refl _))
    have c1 : ∃ u, w6.cell? ⟨g, r, none⟩ = some u := by
      rw [O6.out.cellAt r (by omega)]
      exact ⟨_, List.getElem?_eq_getElem (by have := HN.out; rw [List.length_map]; omega)⟩
    have f1 := O6.out.frozenAt r
    obtain ⟨u, c1⟩ := c1
    have hgw : w.heap.size ≤ g := by omega
    clear hs6 hg6
    simp only [List.mem_cons, List.not_mem_nil, or_false] at hdm
    rcases hdm with rfl | rfl | rfl | rfl | rfl | rfl
    all_goals
      go_wp2
      go_ret
      exact ⟨_, _, _, ys.set r _, rfl, (Row.of_owns O6.out).put HN.out.symm hrn, by rw [List.length_set]; exact HN.out, by omega, set_byte HY.out (by decide), B6.out.setCell (by exact hgw) _⟩
  by_cases t1 : t = 1
  · subst t1
    go_wp2_with fail
    refine (KN.out (k2 + 1) n3 (by omega) (by omega) (by omega) _ S4.out).mono ?_
    rintro e w5 ⟨r, rfl, hr, hs5, hg5⟩
    have hr := hr (by omega)
    have hrn : r < n3 := by omega
    have O5 := Lib.hid (row_grown O4.out hg5 hblt)
    have B5 := Lib.hid (below_step B4.out hg5 (Nat.le_refl _))
    clear hs5 hg5
    have hrc : (r : Int) ≤ (c3 : Int) := by omega
    have hrc2 : r ≤ c3 := by omega
    go_wp2
    go_ret
    exact ⟨_, _, _, ys.take r, rfl, (Row.of_owns O5.out).cut r (by omega), by have := HN.out; rw [List.length_take]; omega, by omega, take_byte HY.out r, B5.out⟩
  by_cases t2 : t = 2
  · subst t2
    go_wp2_with (at_builtin; refine wpList_append_own _ rfl _ _ 22 rfl w2.heap.size 5 i0 (.int .u8 0) 1 1 Tryz.underlying22 hi hz0 hz1 hz2 rfl (by decide) _ _ _ rfl (owns_below O4.out (below1 w4 _)) ⟨w4.heap.size, 0, none⟩ 1 1 [.int .u8 0] rfl rfl ?c2 ?c3 ?c4 ?c5 ?c6 ?_)
    case c2 => exact cell_one_new _ _ _
    case c3 => intro u hu; simp at hu; subst hu; rfl
    case c4 => unfold maxLen; omega
    case c5 => omega
    case c6 => have := (O4.out.lt g rfl).2; simp; omega
    intro v' w5 hown' hgrow _
    obtain ⟨a5, c5, rfl⟩ := owns_slice hown'
    have hw24 : w.heap.size ≤ w4.heap.size := B4.out.size
    have HR : Hid (Row w5 .u8 (.slice a5 (n3 + 1) c5) (ys ++ [0])) := Lib.hid (Row.of_owns (xs := ys ++ [0]) (by rw [List.map_append]; exact hown'))
    have HB5 := Lib.hid ((below_then B4.out (below1 w4 (.cells #[.int .u8 0] 5))).grown hgrow (by simp; omega) (fun k e => by have := (O4.out.lt k e).1; omega))
    clear hown' hgrow
    go_wp2
    go_ret
    exact ⟨_, _, _, ys ++ [0], rfl, HR.out, by have := HN.out; rw [List.length_append]; simp; omega, by omega, snoc_byte HY.out, HB5.out⟩
  by_cases t3 : t = 3
  · subst t3
    go_wp2_with fail
    refine (l1Chance_any w.heap.size a n c xs (k2 + 1) 9 (by decide) (by decide) (by omega) _ S4.out).mono ?_
    rintro e w5 ⟨⟨ch, rfl⟩, hs5, hg5⟩
    have O5 := Lib.hid (row_grown O4.out hg5 hblt)
    have S5 := Lib.hid hs5
    have B5 := Lib.hid (below_step B4.out hg5 (Nat.le_refl _))
    have hs5z : w.heap.size < w5.heap.size := hs5.lt
    clear hs5 hg5
    cases ch
    · go_wp2
      go_ret
      exact ⟨_, _, _, ys, rfl, Row.of_owns O5.out, HN.out, by omega, HY.out, B5.out⟩
    · go_wp2_with fail
      refine (l1Pick_any w.heap.size a n c xs (k2 + 1 + 1) w5.heap.size 2 _ rfl (by decide) (by decide) (by omega) _ (S5.out.alloc _) (lit_row w5 _ .i64 [3000, 3001] 2 rfl (by decide)) (by omega)).mono ?_
      rintro e w6 ⟨d, rfl, hdm, hs6, hg6⟩
      have B6 := Lib.hid (below_step (below_then B5.out (below1 w5 _)) hg6 (Nat.le_refl _))
      obtain ⟨kk, rfl, hkk⟩ : ∃ kk : Nat, d = (kk : Int) ∧ kk ≤ 3001 := by
        simp only [List.mem_cons, List.not_mem_nil, or_false] at hdm
        rcases hdm with rfl | rfl
        · exact ⟨3000, rfl, by decide⟩
        · exact ⟨3001, rfl, by decide⟩
      clear hs6 hg6 hdm
      go_wp2_with (at_make; refine wpList_make_full _ rfl _ _ 22 rfl w6.heap.size 5 i0 (.int .u8 0) 1 Tryz.underlying22 hi hz0 hz1 .i64 .i64 (kk : Int) (kk : Int) kk rfl rfl rfl rfl ?c1 ?c2 ?c3 ?_)
      case c1 => rw [hz2]; omega
      case c2 => unfold maxLen; omega
      case c3 => exact Nat.le_refl _
      intro w7 ho7 hg7
      rw [toList_madeCells_one] at ho7
      have HR : Hid (Row w7 .u8 (.slice (some ⟨w6.heap.size, 0, none⟩) kk kk) (List.replicate kk 0)) := Lib.hid (Row.of_owns (xs := List.replicate kk 0) (by rw [List.map_replicate]; exact ho7))
      have B7 := Lib.hid (below_then B6.out (below_of_grown0 hg7))
      clear ho7 hg7
      go_wp2
      go_ret
      exact ⟨_, _, _, List.replicate kk 0, rfl, HR.out, by rw [List.length_replicate], by omega, repl_byte kk, B7.out⟩
  go_wp2
  go_ret
  exact ⟨_, _, _, ys, rfl, Row.of_owns O4.out, HN.out, by omega, HY.out, B4.out⟩
end Go.Proofs.YtbfjhjkllaceaaaGreatDoor

/- Contracts of the laws' helpers. -/
namespace Go.Proofs.YtbfjhjkllaceaaaGreatDoor
open Go.ChangeShapes Go.WideShapes Go.ChangeAt Go.RowKit
set_option linter.unusedVariables false

theorem lwBig_any (a : Option Addr) (n c : Nat) (hn : n ≤ 9223372036854775807) (w : World) :
    Calls Tryz.prog 5 #[.slice a n c] w fun e w' => e = .returned (.bool (decide (1048576 < n))) ∧ w' = w := by
  by_cases h : 1048576 < n
  · go_enter Tryz.func5, Tryz.ntmps5
    go_wp2
    go_ret
    exact ⟨ret_bool (by simp; omega), rfl⟩
  · go_enter Tryz.func5, Tryz.ntmps5
    go_wp2
    go_ret
    exact ⟨ret_bool (by simp; omega), rfl⟩

set_option maxHeartbeats 800000 in
theorem lwSame_true (a1 a2 : Option Addr) (n1 n2 c1 c2 : Nat) (xs : List Int) (w : World) (h1 : Row w .u8 (.slice a1 n1 c1) xs) (h2 : Row w .u8 (.slice a2 n2 c2) xs) :
    Calls Tryz.prog 17 #[.slice a1 n1 c1, .slice a2 n2 c2] w fun e w' => e = .returned (.bool true) ∧ ∃ n, w' = w.drewN n := by
  have k1 := fun n => conv_row (P := Tryz.prog) (w.drewN n) Tryz.underlying22 Tryz.underlying5 Tryz.underlying9 (h1.drewN n)
  have k2 := fun n => conv_row (P := Tryz.prog) (w.drewN n) Tryz.underlying22 Tryz.underlying5 Tryz.underlying9 (h2.drewN n)
  have k3 := k1 0
  have k4 := k2 0
  rw [World.drewN_zero] at k3 k4
  go_enter Tryz.func17, Tryz.ntmps17
  go_wp2
  go_ret
  exact ⟨ret_bool (by simp), 0, rfl⟩

set_option maxHeartbeats 800000 in
theorem lwBytes_true (c : Int) (a1 a2 : Option Addr) (n1 n2 c1 c2 : Nat) (xs : List Int) (w : World) (h1 : Row w .u8 (.slice a1 n1 c1) xs) (h2 : Row w .u8 (.slice a2 n2 c2) xs) :
    Calls Tryz.prog 13 #[.agg #[.int .i64 c, .slice a1 n1 c1], .agg #[.int .i64 c, .slice a2 n2 c2]] w fun e w' => e = .returned (.bool true) ∧ Below w.heap.size w w' := by
  go_enter Tryz.func13, Tryz.ntmps13
  go_wp2_with fail
  refine (lwSame_true a1 a2 n1 n2 c1 c2 xs _ (h1.below (below2 _ _ _)) (h2.below (below2 _ _ _))).mono ?_
  rintro e w1 ⟨rfl, nd, rfl⟩
  go_wp2
  go_ret
  exact ⟨rfl, below_drewN (below2 _ _ _) _⟩
end Go.Proofs.YtbfjhjkllaceaaaGreatDoor

/- spec.l4Same, spec.SameTrees. -/
namespace Go.Proofs.YtbfjhjkllaceaaaGreatDoor
open Go.ChangeShapes Go.WideShapes Go.ChangeAt Go.RowKit
set_option linter.unusedVariables false

theorem toList_inj {s t : ByteArray} (h : s.toList = t.toList) : s = t := by
  rw [ByteArray.toList_eq, ByteArray.toList_eq] at h
  exact bytes_inj h
theorem toList_ne {s t : ByteArray} (h : s ≠ t) : (s.toList == t.toList) = false := by rw [beq_eq_false_iff_ne]; exact fun e => h (toList_inj e)

set_option maxRecDepth 100000 in
set_option maxHeartbeats 1600000 in
theorem l4Same_d (b o b' o' : Nat) (x y : It) (w : World) (h : ItAt w b o x) (h' : ItAt w b' o' y)  (hne : x.depth ≠ y.depth) :
    Calls Tryz.prog 71 #[.pointer (some ⟨b, o, none⟩), .pointer (some ⟨b', o', none⟩)] w fun e w' => e = .returned (.bool false) ∧ ∃ n, w' = w.drewN n := by
  have d0 := h.c0
  have e0 := h'.c0
  obtain ⟨xd, xt, xs, xn, xa⟩ := x
  obtain ⟨yd, yt, ys, yn, ya⟩ := y
  dsimp only at hne d0 e0
  have q1 : (xd != yd) = true := by simpa using hne
  have q2 : (xd == yd) = false := by simpa using hne
  clear h h' hne
  go_enter Tryz.func71, Tryz.ntmps71
  go_wp2_with fail
  go_quiet (fail)
  go_wp2
  go_ret
  exact ⟨rfl, _, rfl⟩

set_option maxRecDepth 100000 in
set_option maxHeartbeats 1600000 in
theorem l4Same_t (b o b' o' : Nat) (x y : It) (w : World) (h : ItAt w b o x) (h' : ItAt w b' o' y) (hd : x.depth = y.depth) (hne : x.text ≠ y.text) :
    Calls Tryz.prog 71 #[.pointer (some ⟨b, o, none⟩), .pointer (some ⟨b', o', none⟩)] w fun e w' => e = .returned (.bool false) ∧ ∃ n, w' = w.drewN n := by
  have d0 := h.c0
  have e0 := h'.c0
  have d1 := h.c1
  have e1 := h'.c1
  obtain ⟨xd, xt, xs, xn, xa⟩ := x
  obtain ⟨yd, yt, ys, yn, ya⟩ := y
  dsimp only at hd hne d0 e0 d1 e1
  subst hd
  have q0 : (xd != xd) = false := by simp
  have q1 := toList_ne hne
  clear h h' hne
  go_enter Tryz.func71, Tryz.ntmps71
  go_wp2_with fail
  go_quiet (fail)
  go_wp2
  go_ret
  exact ⟨rfl, _, rfl⟩

set_option maxRecDepth 100000 in
set_option maxHeartbeats 1600000 in
theorem l4Same_s (b o b' o' : Nat) (x y : It) (w : World) (h : ItAt w b o x) (h' : ItAt w b' o' y) (hd : x.depth = y.depth) (ht : x.text = y.text) (hne : x.space ≠ y.space) :
    Calls Tryz.prog 71 #[.pointer (some ⟨b, o, none⟩), .pointer (some ⟨b', o', none⟩)] w fun e w' => e = .returned (.bool false) ∧ ∃ n, w' = w.drewN n := by
  have d0 := h.c0
  have e0 := h'.c0
  have d1 := h.c1
  have e1 := h'.c1
  have d2 := h.c2
  have e2 := h'.c2
  obtain ⟨xd, xt, xs, xn, xa⟩ := x
  obtain ⟨yd, yt, ys, yn, ya⟩ := y
  dsimp only at hd ht hne d0 e0 d1 e1 d2 e2
  subst hd
  subst ht
  have q0 : (xd != xd) = false := by simp
  have q1 := toList_ne hne
  clear h h' hne
  go_enter Tryz.func71, Tryz.ntmps71
  go_wp2_with fail
  go_quiet (fail)
  go_wp2
  go_ret
  exact ⟨rfl, _, rfl⟩

set_option maxRecDepth 100000 in
set_option maxHeartbeats 1600000 in
theorem l4Same_n (b o b' o' : Nat) (x y : It) (w : World) (h : ItAt w b o x) (h' : ItAt w b' o' y) (hd : x.depth = y.depth) (ht : x.text = y.text) (hs : x.space = y.space) (hne : x.name ≠ y.name) :
    Calls Tryz.prog 71 #[.pointer (some ⟨b, o, none⟩), .pointer (some ⟨b', o', none⟩)] w fun e w' => e = .returned (.bool false) ∧ ∃ n, w' = w.drewN n := by
  have d0 := h.c0
  have e0 := h'.c0
  have d1 := h.c1
  have e1 := h'.c1
  have d2 := h.c2
  have e2 := h'.c2
  have d3 := h.c3
  have e3 := h'.c3
  obtain ⟨xd, xt, xs, xn, xa⟩ := x
  obtain ⟨yd, yt, ys, yn, ya⟩ := y
  dsimp only at hd ht hs hne d0 e0 d1 e1 d2 e2 d3 e3
  subst hd
  subst ht
  subst hs
  have q0 : (xd != xd) = false := by simp
  have q1 := toList_ne hne
  clear h h' hne
  go_enter Tryz.func71, Tryz.ntmps71
  go_wp2_with fail
  go_quiet (fail)
  go_wp2
  go_ret
  exact ⟨rfl, _, rfl⟩

set_option maxRecDepth 100000 in
set_option maxHeartbeats 1600000 in
theorem l4Same_l (b o b' o' : Nat) (x y : It) (w : World) (h : ItAt w b o x) (h' : ItAt w b' o' y) (hd : x.depth = y.depth) (ht : x.text = y.text) (hs : x.space = y.space) (hn : x.name = y.name) (hne : x.attrs.length ≠ y.attrs.length) :
    Calls Tryz.prog 71 #[.pointer (some ⟨b, o, none⟩), .pointer (some ⟨b', o', none⟩)] w fun e w' => e = .returned (.bool false) ∧ ∃ n, w' = w.drewN n := by
  have d0 := h.c0
  have e0 := h'.c0
  have d1 := h.c1
  have e1 := h'.c1
  have d2 := h.c2
  have e2 := h'.c2
  have d3 := h.c3
  have e3 := h'.c3
  obtain ⟨a4, n4, c4, d4, hat⟩ := h.c4
  obtain ⟨a5, n5, c5, e4, hat'⟩ := h'.c4
  have m4 := hat.max
  have m5 := hat'.max
  have hnn : n4 ≠ n5 := by rw [← hat.len, ← hat'.len]; exact hne
  clear hat hat'
  obtain ⟨xd, xt, xs, xn, xa⟩ := x
  obtain ⟨yd, yt, ys, yn, ya⟩ := y
  dsimp only at hd ht hs hn d0 e0 d1 e1 d2 e2 d3 e3
  subst hd
  subst ht
  subst hs
  subst hn
  have q0 : (xd != xd) = false := by simp
  have q1 : ((n4 : Int) != (n5 : Int)) = true := by rw [bne_iff_ne]; omega
  have q2 : ((n4 : Int) == (n5 : Int)) = false := by rw [beq_eq_false_iff_ne]; omega
  clear h h' hne hnn
  go_enter Tryz.func71, Tryz.ntmps71
  go_wp2_with fail
  go_quiet (fail)
  go_wp2
  go_ret
  exact ⟨rfl, _, rfl⟩

end Go.Proofs.YtbfjhjkllaceaaaGreatDoor

/- spec.l4Same, spec.SameTrees. -/
namespace Go.Proofs.YtbfjhjkllaceaaaGreatDoor
open Go.ChangeShapes Go.WideShapes Go.ChangeAt Go.RowKit
set_option linter.unusedVariables false

theorem neqAttr (s t s' t' : ByteArray) (q1 q2 : Bool) (h1 : (s.toList == s'.toList) = q1) (h2 : (t.toList == t'.toList) = q2) (w : World) : (binOp .neq 73 (.agg #[.string s, .string t]) (.agg #[.string s', .string t'])).run Tryz.prog w = .ok (.bool (!(q1 && q2))) w := by
  have u4 := Tryz.underlying9
  have hS : Tryz.prog.underlying 73 = some (.struct (Tryz.prog.fieldsOf 73)) := by kernel_rfl
  rw [run_neq_struct, show (10000 : Nat) = 9999 + 1 from rfl, run_equalIn_agg w 9999 _ _ _ hS (by kernel_rfl)]
  simp only [Program.fieldsOf, Tryz.underlying73]
  cases q1 <;> cases q2 <;> go_simp
theorem take_snocD {l : List At} {k : Nat} (h : k < l.length) : l.take (k + 1) = l.take k ++ [l.getD k dAt] := by
  rw [List.take_succ_eq_append_getElem h, List.getD_eq_getElem?_getD, List.getElem?_eq_getElem h]; rfl
set_option maxRecDepth 100000 in
set_option maxHeartbeats 3200000 in
theorem l4Same_a (b o b' o' : Nat) (x y : It) (w : World) (bb : Bool) (hbb : bb = true ↔ x.attrs = y.attrs) (h : ItAt w b o x) (h' : ItAt w b' o' y) (hd : x.depth = y.depth) (ht : x.text = y.text) (hs : x.space = y.space) (hn : x.name = y.name) (hl : x.attrs.length = y.attrs.length) :
    Calls Tryz.prog 71 #[.pointer (some ⟨b, o, none⟩), .pointer (some ⟨b', o', none⟩)] w fun e w' => e = .returned (.bool bb) ∧ ∃ n, w' = w.drewN n := by
  have d0 := h.c0
  have e0 := h'.c0
  have d1 := h.c1
  have e1 := h'.c1
  have d2 := h.c2
  have e2 := h'.c2
  have d3 := h.c3
  have e3 := h'.c3
  obtain ⟨a4, n4, c4, d4, hat⟩ := h.c4
  obtain ⟨a5, n5, c5, e4, hat'⟩ := h'.c4
  obtain rfl : n4 = n5 := by rw [← hat.len, ← hat'.len]; exact hl
  have hm := hat.max
  have HR := Lib.hid hat.row
  have HR' := Lib.hid hat'.row
  have HL := Lib.hid hat.len
  have HL' := Lib.hid hat'.len
  obtain ⟨xd, xt, xs, xn, xa⟩ := x
  obtain ⟨yd, yt, ys, yn, ya⟩ := y
  dsimp only at hd ht hs hn hl d0 e0 d1 e1 d2 e2 d3 e3 hbb HR HR' HL HL'
  subst hd
  subst ht
  subst hs
  subst hn
  have HBB := Lib.hid hbb
  have q0 : (xd != xd) = false := by simp
  clear h h' hat hat' hl hbb
  go_enter Tryz.func71, Tryz.ntmps71
  go_wp2_with fail
  go_quiet (fail)
  go_wp2
  clear d0 e0 d1 e1 d2 e2 d3 e3 q0
  go_loopw [66] (fun i wr => ∃ k : Nat, k ≤ n4 ∧ i = .int .i64 k ∧ xa.take k = ya.take k ∧ ∃ n, wr = w.drewN n) (fun i _ => n4 - (intOf i).toNat)
  case atStart => exact ⟨0, Nat.zero_le _, rfl, rfl, _, rfl⟩
  case round =>
    obtain ⟨k, hk, rfl, ht, nd, rfl⟩ := hrel
    have HT := Lib.hid ht
    clear ht
    by_cases hlt : k < n4
    · rcases HR.out with e0 | ⟨b4, o4, rfl, h3, h4⟩
      · omega
      rcases HR'.out with e0 | ⟨b5, o5, rfl, h3', h4'⟩
      · omega
      have f0 := (h4 k hlt).1
      have f1 := (h4 k hlt).2
      have g0 := (h4' k hlt).1
      have g1 := (h4' k hlt).2
      clear h4 h4'
      have k1 : (k : Int) < (n4 : Int) := by omega
      have HE : Hid (xa.getD k dAt = ya.getD k dAt → xa.take (k + 1) = ya.take (k + 1)) := Lib.hid fun e => by
        rw [take_snocD (by have := HL.out; omega), take_snocD (l := ya) (by have := HL'.out; omega), HT.out, e]
      have HN : Hid (xa.getD k dAt ≠ ya.getD k dAt → bb = false) := Lib.hid fun e => by
        rw [Bool.eq_false_iff]
        intro hb
        exact e (by rw [HBB.out.1 hb])
      obtain ⟨p, hp⟩ : ∃ p, xa.getD k dAt = p := ⟨_, rfl⟩
      obtain ⟨q, hq⟩ : ∃ q, ya.getD k dAt = q := ⟨_, rfl⟩
      rw [hp] at f0 f1 HE HN
      rw [hq] at g0 g1 HE HN
      have HP := Lib.hid hp
      have HQ := Lib.hid hq
      clear hp hq
      obtain ⟨ps, pt⟩ := p
      obtain ⟨qs, qt⟩ := q
      dsimp only at f0 f1 g0 g1
      by_cases hne : ps = qs ∧ pt = qt
      · obtain ⟨rfl, rfl⟩ := hne
        have hfr := neqAttr ps pt ps pt true true (by simp) (by simp)
        go_wp2_with fail
        go_quiet (fail)
        go_wp2
        go_roundw
        case rel => exact ⟨k + 1, by omega, by go_num, HE.out trivial, _, rfl⟩
        case measure => simp [intOf]; omega
      · have hfr : ∀ w, (binOp .neq 73 (.agg #[.string ps, .string pt]) (.agg #[.string qs, .string qt])).run Tryz.prog w = .ok (.bool true) w := by
          intro W
          by_cases h1 : ps = qs
          · rw [neqAttr ps pt qs qt true false (by rw [h1]; simp) (toList_ne fun e => hne ⟨h1, e⟩)]; rfl
          · rw [neqAttr ps pt qs qt false _ (toList_ne h1) rfl]; rfl
        have HF := HN.out fun e => hne (by rw [At.mk.injEq] at e; exact e)
        subst HF
        clear hne HN HE
        go_wp2_with fail
        go_quiet (fail)
        go_wp2
        go_ret
        exact ⟨rfl, _, World.drewN_drewN _ _ _⟩
    · obtain rfl : k = n4 := by omega
      have HF : bb = true := HBB.out.2 (by
        have := HT.out
        rw [List.take_of_length_le (by have := HL.out; omega), List.take_of_length_le (by have := HL'.out; omega)] at this
        exact this)
      subst HF
      go_wp2
      go_ret
      exact ⟨rfl, _, rfl⟩

theorem l4Same_any (b o b' o' : Nat) (x y : It) (w : World) (bb : Bool) (hbb : bb = true ↔ x = y) (h : ItAt w b o x) (h' : ItAt w b' o' y) :
    Calls Tryz.prog 71 #[.pointer (some ⟨b, o, none⟩), .pointer (some ⟨b', o', none⟩)] w fun e w' => e = .returned (.bool bb) ∧ ∃ n, w' = w.drewN n := by
  have no : x ≠ y → bb = false := fun hne => by rw [Bool.eq_false_iff]; exact fun e => hne (hbb.1 e)
  by_cases hd : x.depth = y.depth
  · by_cases ht : x.text = y.text
    · by_cases hs : x.space = y.space
      · by_cases hn : x.name = y.name
        · by_cases hl : x.attrs.length = y.attrs.length
          · exact l4Same_a b o b' o' x y w bb ⟨fun e => by rw [hbb.1 e], fun e => hbb.2 (It.eq hd ht hs hn e)⟩ h h' hd ht hs hn hl
          · rw [no fun e => hl (by rw [e])]; exact l4Same_l b o b' o' x y w h h' hd ht hs hn hl
        · rw [no fun e => hn (by rw [e])]; exact l4Same_n b o b' o' x y w h h' hd ht hs hn
      · rw [no fun e => hs (by rw [e])]; exact l4Same_s b o b' o' x y w h h' hd ht hs
    · rw [no fun e => ht (by rw [e])]; exact l4Same_t b o b' o' x y w h h' hd ht
  · rw [no fun e => hd (by rw [e])]; exact l4Same_d b o b' o' x y w h h' hd

theorem take_snocI {l : List It} {k : Nat} (h : k < l.length) : l.take (k + 1) = l.take k ++ [l.getD k dIt] := by
  rw [List.take_succ_eq_append_getElem h, List.getD_eq_getElem?_getD, List.getElem?_eq_getElem h]; rfl

set_option maxRecDepth 100000 in
set_option maxHeartbeats 1600000 in
theorem specSameTrees_any (a a' : Option Addr) (n n' c c' : Nat) (l l' : List It) (w : World) (bb : Bool) (hbb : bb = true ↔ l = l') (h : ItsAt w a n c l) (h' : ItsAt w a' n' c' l') :
    Calls Tryz.prog 41 #[.slice a n c, .slice a' n' c'] w fun e w' => e = .returned (.bool bb) ∧ ∃ n, w' = w.drewN n := by
  have hm := h.max
  have hm' := h'.max
  have HR := Lib.hid h.row
  have HR' := Lib.hid h'.row
  have HL := Lib.hid h.len
  have HL' := Lib.hid h'.len
  have HBB := Lib.hid hbb
  clear h h' hbb
  by_cases hnn : n = n'
  · subst hnn
    go_enter Tryz.func41, Tryz.ntmps41
    go_wp2
    go_loopw [13] (fun i wr => ∃ k : Nat, k ≤ n ∧ i = .int .i64 k ∧ l.take k = l'.take k ∧ ∃ n, wr = w.drewN n) (fun i _ => n - (intOf i).toNat)
    case atStart => exact ⟨0, Nat.zero_le _, rfl, rfl, 0, rfl⟩
    case round =>
      obtain ⟨k, hk, rfl, ht, hw⟩ := hrel
      have HW := Lib.hid hw
      clear hw
      have HT := Lib.hid ht
      clear ht
      by_cases hlt : k < n
      · rcases HR.out with e0 | ⟨b, o, rfl, h4⟩
        · omega
        rcases HR'.out with e0 | ⟨b', o', rfl, h4'⟩
        · omega
        have hbw : Below w.heap.size w wr := by obtain ⟨nd, rfl⟩ := HW.out; exact below_drewN (Below.refl _ _) nd
        have hi := (h4 k hlt).below hbw
        have hi' := (h4' k hlt).below hbw
        clear hbw
        clear h4 h4'
        have k1 : (k : Int) < (n : Int) := by omega
        by_cases hne : l.getD k dIt = l'.getD k dIt
        · have HE : Hid (l.take (k + 1) = l'.take (k + 1)) := Lib.hid (by
            rw [take_snocI (by have := HL.out; omega), take_snocI (l := l') (by have := HL'.out; omega), HT.out, hne])
          have K := Lib.hid (fun (m : Nat) => l4Same_any b (o + k * 5) b' (o' + k * 5) (l.getD k dIt) (l'.getD k dIt) (wr.drewN m) true (iff_of_true rfl hne) (hi.below (below_drewN (Below.refl _ _) m)) (hi'.below (below_drewN (Below.refl _ _) m)))
          clear hne hi hi'
          go_wp2_with fail
          go_quiet ((go_at_call 71; exact Calls.quiet_of (K.out _)))
          go_wp2
          go_roundw
          case rel => exact ⟨k + 1, by omega, by go_num, HE.out, drew_more HW.out _⟩
          case measure => simp [intOf]; omega
        · have HF : bb = false := by
            rw [Bool.eq_false_iff]
            exact fun hb => hne (by rw [HBB.out.1 hb])
          subst HF
          have K := Lib.hid (fun (m : Nat) => l4Same_any b (o + k * 5) b' (o' + k * 5) (l.getD k dIt) (l'.getD k dIt) (wr.drewN m) false (iff_of_false (by decide) hne) (hi.below (below_drewN (Below.refl _ _) m)) (hi'.below (below_drewN (Below.refl _ _) m)))
          clear hne hi hi'
          go_wp2_with fail
          go_quiet ((go_at_call 71; exact Calls.quiet_of (K.out _)))
          go_wp2
          go_ret
          exact ⟨rfl, drew_more HW.out _⟩
      · obtain rfl : k = n := by omega
        have HF : bb = true := HBB.out.2 (by
          have := HT.out
          rw [List.take_of_length_le (by have := HL.out; omega), List.take_of_length_le (by have := HL'.out; omega)] at this
          exact this)
        subst HF
        go_wp2
        go_ret
        exact ⟨rfl, HW.out⟩
  · have HF : bb = false := by
      rw [Bool.eq_false_iff]
      exact fun hb => hnn (by rw [← HL.out, ← HL'.out, HBB.out.1 hb])
    subst HF
    have q1 : ((n : Int) != (n' : Int)) = true := by rw [bne_iff_ne]; omega
    have q2 : ((n : Int) == (n' : Int)) = false := by rw [beq_eq_false_iff_ne]; omega
    clear hnn
    go_enter Tryz.func41, Tryz.ntmps41
    go_wp2
    go_ret
    exact ⟨rfl, 0, rfl⟩
end Go.Proofs.YtbfjhjkllaceaaaGreatDoor

/- slices.Equal over attributes, sameItems, slices.EqualFunc over items, impl.SameTrees. -/
namespace Go.Proofs.YtbfjhjkllaceaaaGreatDoor
open Go.ChangeShapes Go.WideShapes Go.ChangeAt Go.RowKit
set_option linter.unusedVariables false

set_option maxRecDepth 100000 in
set_option maxHeartbeats 1600000 in
theorem equalAttrs_any (a a' : Option Addr) (n n' c c' : Nat) (l l' : List At) (w : World) (bb : Bool) (hbb : bb = true ↔ l = l') (h : AtsAt w a n c l) (h' : AtsAt w a' n' c' l') :
    Calls Tryz.prog 95 #[.slice a n c, .slice a' n' c'] w fun e w' => e = .returned (.bool bb) ∧ ∃ n, w' = w.drewN n := by
  have hm := h.max
  have hm' := h'.max
  have HR := Lib.hid h.row
  have HR' := Lib.hid h'.row
  have HL := Lib.hid h.len
  have HL' := Lib.hid h'.len
  have HBB := Lib.hid hbb
  clear h h' hbb
  by_cases hnn : n = n'
  · subst hnn
    go_enter Tryz.func95, Tryz.ntmps95
    go_wp2
    go_loopw [13] (fun i wr => ∃ k : Nat, k ≤ n ∧ i = .int .i64 k ∧ l.take k = l'.take k ∧ ∃ n, wr = w.drewN n) (fun i _ => n - (intOf i).toNat)
    case atStart => exact ⟨0, Nat.zero_le _, rfl, rfl, 0, rfl⟩
    case round =>
      obtain ⟨k, hk, rfl, ht, hw⟩ := hrel
      have HW := Lib.hid hw
      have HT := Lib.hid ht
      clear ht hw
      by_cases hlt : k < n
      · rcases HR.out with e0 | ⟨b4, o4, rfl, h3, h4⟩
        · omega
        rcases HR'.out with e0 | ⟨b5, o5, rfl, h3', h4'⟩
        · omega
        have hbw : Below w.heap.size w wr := by obtain ⟨nd, rfl⟩ := HW.out; exact below_drewN (Below.refl _ _) nd
        have f0 := (hbw.cell (p := ⟨b4, o4 + k * 2, none⟩) h3).trans (h4 k hlt).1
        have f1 := (hbw.cell (p := ⟨b4, o4 + k * 2 + 1, none⟩) h3).trans (h4 k hlt).2
        have g0 := (hbw.cell (p := ⟨b5, o5 + k * 2, none⟩) h3').trans (h4' k hlt).1
        have g1 := (hbw.cell (p := ⟨b5, o5 + k * 2 + 1, none⟩) h3').trans (h4' k hlt).2
        clear h4 h4' hbw
        have k1 : (k : Int) < (n : Int) := by omega
        have HE : Hid (l.getD k dAt = l'.getD k dAt → l.take (k + 1) = l'.take (k + 1)) := Lib.hid fun e => by
          rw [take_snocD (by have := HL.out; omega), take_snocD (l := l') (by have := HL'.out; omega), HT.out, e]
        have HN : Hid (l.getD k dAt ≠ l'.getD k dAt → bb = false) := Lib.hid fun e => by
          rw [Bool.eq_false_iff]
          intro hb
          exact e (by rw [HBB.out.1 hb])
        obtain ⟨p, hp⟩ : ∃ p, l.getD k dAt = p := ⟨_, rfl⟩
        obtain ⟨q, hq⟩ : ∃ q, l'.getD k dAt = q := ⟨_, rfl⟩
        rw [hp] at f0 f1 HE HN
        rw [hq] at g0 g1 HE HN
        have HP := Lib.hid hp
        have HQ := Lib.hid hq
        clear hp hq
        obtain ⟨ps, pt⟩ := p
        obtain ⟨qs, qt⟩ := q
        dsimp only at f0 f1 g0 g1
        by_cases hne : ps = qs ∧ pt = qt
        · obtain ⟨rfl, rfl⟩ := hne
          have hfr := neqAttr ps pt ps pt true true (by simp) (by simp)
          go_wp2_with fail
          go_quiet (fail)
          go_wp2
          go_roundw
          case rel => exact ⟨k + 1, by omega, by go_num, HE.out trivial, drew_more HW.out _⟩
          case measure => simp [intOf]; omega
        · have hfr : ∀ w, (binOp .neq 73 (.agg #[.string ps, .string pt]) (.agg #[.string qs, .string qt])).run Tryz.prog w = .ok (.bool true) w := by
            intro W
            by_cases h1 : ps = qs
            · rw [neqAttr ps pt qs qt true false (by rw [h1]; simp) (toList_ne fun e => hne ⟨h1, e⟩)]; rfl
            · rw [neqAttr ps pt qs qt false _ (toList_ne h1) rfl]; rfl
          have HF := HN.out fun e => hne (by rw [At.mk.injEq] at e; exact e)
          subst HF
          clear hne HN HE
          go_wp2_with fail
          go_quiet (fail)
          go_wp2
          go_ret
          exact ⟨rfl, drew_more HW.out _⟩
      · obtain rfl : k = n := by omega
        have HF : bb = true := HBB.out.2 (by
          have := HT.out
          rw [List.take_of_length_le (by have := HL.out; omega), List.take_of_length_le (by have := HL'.out; omega)] at this
          exact this)
        subst HF
        go_wp2
        go_ret
        exact ⟨rfl, HW.out⟩
  · have HF : bb = false := by
      rw [Bool.eq_false_iff]
      exact fun hb => hnn (by rw [← HL.out, ← HL'.out, HBB.out.1 hb])
    subst HF
    have q1 : ((n : Int) != (n' : Int)) = true := by rw [bne_iff_ne]; omega
    have q2 : ((n : Int) == (n' : Int)) = false := by rw [beq_eq_false_iff_ne]; omega
    clear hnn
    go_enter Tryz.func95, Tryz.ntmps95
    go_wp2
    go_ret
    exact ⟨rfl, 0, rfl⟩

/-- what the equality of two items hangs on, field by field -/
theorem it_ne {x y : It} (bb : Bool) (hbb : bb = true ↔ x = y) (h : x ≠ y) : bb = false := by rw [Bool.eq_false_iff]; exact fun e => h (hbb.1 e)

set_option maxRecDepth 100000 in
set_option maxHeartbeats 1600000 in
theorem sameItems_any (x y : It) (a a' : Option Addr) (n n' c c' : Nat) (w : World) (bb : Bool) (hbb : bb = true ↔ x = y) (h : AtsAt w a n c x.attrs) (h' : AtsAt w a' n' c' y.attrs) :
    Calls Tryz.prog 70 #[.agg #[.int .i64 x.depth, .string x.text, .string x.space, .string x.name, .slice a n c], .agg #[.int .i64 y.depth, .string y.text, .string y.space, .string y.name, .slice a' n' c']] w fun e w' => e = .returned (.bool bb) ∧ Below w.heap.size w w' := by
  have HBB := Lib.hid hbb
  have K := Lib.hid (fun cc hcc W (hb : Below w.heap.size w W) => equalAttrs_any a a' n n' c c' x.attrs y.attrs W cc hcc (h.below hb) (h'.below hb))
  clear h h' hbb
  obtain ⟨xd, xt, xs, xn, xa⟩ := x
  obtain ⟨yd, yt, ys, yn, ya⟩ := y
  dsimp only at K ⊢
  by_cases hd : xd = yd
  · subst hd
    have q0 : (xd == xd) = true := by simp
    by_cases ht : xt = yt
    · subst ht
      by_cases hs : xs = ys
      · subst hs
        by_cases hn : xn = yn
        · subst hn
          have K2 := Lib.hid (K.out bb ⟨fun e => by have := HBB.out.1 e; rw [It.mk.injEq] at this; exact this.2.2.2.2, fun e => HBB.out.2 (by rw [e])⟩)
          go_enter Tryz.func70, Tryz.ntmps70
          go_wp2_with (go_at_call 95; refine (K2.out _ (below2 _ _ _)).mono ?_; rintro e w1 ⟨rfl, nd, rfl⟩)
          go_ret
          exact ⟨rfl, below_drewN (below2 _ _ _) _⟩
        · have q1 := toList_ne hn
          have HF := it_ne bb HBB.out (fun e => hn (by rw [It.mk.injEq] at e; exact e.2.2.2.1))
          subst HF
          clear hn
          go_enter Tryz.func70, Tryz.ntmps70
          go_wp2
          go_ret
          exact ⟨rfl, below2 _ _ _⟩
      · have q1 := toList_ne hs
        have HF := it_ne bb HBB.out (fun e => hs (by rw [It.mk.injEq] at e; exact e.2.2.1))
        subst HF
        clear hs
        go_enter Tryz.func70, Tryz.ntmps70
        go_wp2
        go_ret
        exact ⟨rfl, below2 _ _ _⟩
    · have q1 := toList_ne ht
      have HF := it_ne bb HBB.out (fun e => ht (by rw [It.mk.injEq] at e; exact e.2.1))
      subst HF
      clear ht
      go_enter Tryz.func70, Tryz.ntmps70
      go_wp2
      go_ret
      exact ⟨rfl, below2 _ _ _⟩
  · have q1 : (xd == yd) = false := by simpa using hd
    have HF := it_ne bb HBB.out (fun e => hd (by rw [It.mk.injEq] at e; exact e.1))
    subst HF
    clear hd
    go_enter Tryz.func70, Tryz.ntmps70
    go_wp2
    go_ret
    exact ⟨rfl, below2 _ _ _⟩
end Go.Proofs.YtbfjhjkllaceaaaGreatDoor

/- slices.EqualFunc over items, impl.SameTrees. -/
namespace Go.Proofs.YtbfjhjkllaceaaaGreatDoor
open Go.ChangeShapes Go.WideShapes Go.ChangeAt Go.RowKit
set_option linter.unusedVariables false

set_option maxRecDepth 100000 in
set_option maxHeartbeats 1600000 in
theorem equalFunc_any (a a' : Option Addr) (n n' c c' : Nat) (l l' : List It) (w : World) (bb : Bool) (hbb : bb = true ↔ l = l') (h : ItsAt w a n c l) (h' : ItsAt w a' n' c' l') :
    Calls Tryz.prog 69 #[.slice a n c, .slice a' n' c', .func (.func 70) #[] #[]] w fun e w' => e = .returned (.bool bb) ∧ Below w.heap.size w w' := by
  have hm := h.max
  have hm' := h'.max
  have HR := Lib.hid h.row
  have HR' := Lib.hid h'.row
  have HL := Lib.hid h.len
  have HL' := Lib.hid h'.len
  have HBB := Lib.hid hbb
  clear h h' hbb
  by_cases hnn : n = n'
  · subst hnn
    go_enter Tryz.func69, Tryz.ntmps69
    go_wp2
    go_loopw [17] (fun i wr => ∃ k : Nat, k ≤ n ∧ i = .int .i64 k ∧ l.take k = l'.take k ∧ Below w.heap.size w wr) (fun i _ => n - (intOf i).toNat)
    case atStart => exact ⟨0, Nat.zero_le _, rfl, rfl, Below.refl _ _⟩
    case round =>
      obtain ⟨k, hk, rfl, ht, hb⟩ := hrel
      have HT := Lib.hid ht
      clear ht
      by_cases hlt : k < n
      · rcases HR.out with e0 | ⟨b, o, rfl, h4⟩
        · omega
        rcases HR'.out with e0 | ⟨b', o', rfl, h4'⟩
        · omega
        have hi := (h4 k hlt).below hb
        have hi' := (h4' k hlt).below hb
        have d0 := hi.c0
        have d1 := hi.c1
        have d2 := hi.c2
        have d3 := hi.c3
        obtain ⟨a4, n4, c4, d4, hat⟩ := hi.c4
        have e0 := hi'.c0
        have e1 := hi'.c1
        have e2 := hi'.c2
        have e3 := hi'.c3
        obtain ⟨a5, n5, c5, e4, hat'⟩ := hi'.c4
        have hbl := hi.lt
        have hbl' := hi'.lt
        have k1 : (k : Int) < (n : Int) := by omega
        have HE : Hid (l.getD k dIt = l'.getD k dIt → l.take (k + 1) = l'.take (k + 1)) := Lib.hid fun e => by
          rw [take_snocI (by have := HL.out; omega), take_snocI (l := l') (by have := HL'.out; omega), HT.out, e]
        have HN : Hid (l.getD k dIt ≠ l'.getD k dIt → bb = false) := Lib.hid fun e => by
          rw [Bool.eq_false_iff]
          intro hb
          exact e (by rw [HBB.out.1 hb])
        have K := Lib.hid (fun cc hcc W (hb' : Below wr.heap.size wr W) => sameItems_any (l.getD k dIt) (l'.getD k dIt) a4 a5 n4 n5 c4 c5 W cc hcc (hat.below hb') (hat'.below hb'))
        clear hi hi' hat hat' h4 h4'
        generalize l.getD k dIt = x at d0 d1 d2 d3 K HE HN
        generalize l'.getD k dIt = y at e0 e1 e2 e3 K HE HN
        have HB := Lib.hid hb
        clear hb
        obtain ⟨xd, xt, xs, xn, xa⟩ := x
        obtain ⟨yd, yt, ys, yn, ya⟩ := y
        dsimp only at d0 d1 d2 d3 e0 e1 e2 e3 K
        by_cases hne : (⟨xd, xt, xs, xn, xa⟩ : It) = ⟨yd, yt, ys, yn, ya⟩
        · have HE2 := Lib.hid (HE.out hne)
          have K2 := Lib.hid (K.out true (iff_of_true rfl hne))
          clear HE HN K hne
          go_wp2_with (go_at_call 70; refine (K2.out _ (below2 _ _ _)).mono ?_; rintro e w2 ⟨rfl, hb2⟩)
          go_roundw
          case rel => exact ⟨k + 1, by omega, by go_num, HE2.out, below_then HB.out (below_then (below2 _ _ _) hb2)⟩
          case measure => simp [intOf]; omega
        · have HF := HN.out hne
          subst HF
          have K2 := Lib.hid (K.out false (iff_of_false (by decide) hne))
          clear HE HN K hne
          go_wp2_with (go_at_call 70; refine (K2.out _ (below2 _ _ _)).mono ?_; rintro e w2 ⟨rfl, hb2⟩)
          go_ret
          exact ⟨rfl, below_then HB.out (below_then (below2 _ _ _) hb2)⟩
      · obtain rfl : k = n := by omega
        have HF : bb = true := HBB.out.2 (by
          have := HT.out
          rw [List.take_of_length_le (by have := HL.out; omega), List.take_of_length_le (by have := HL'.out; omega)] at this
          exact this)
        subst HF
        go_wp2
        go_ret
        exact ⟨rfl, hb⟩
  · have HF : bb = false := by
      rw [Bool.eq_false_iff]
      exact fun hb => hnn (by rw [← HL.out, ← HL'.out, HBB.out.1 hb])
    subst HF
    have q1 : ((n : Int) != (n' : Int)) = true := by rw [bne_iff_ne]; omega
    have q2 : ((n : Int) == (n' : Int)) = false := by rw [beq_eq_false_iff_ne]; omega
    clear hnn
    go_enter Tryz.func69, Tryz.ntmps69
    go_wp2
    go_ret
    exact ⟨rfl, Below.refl _ _⟩

theorem implSameTrees_any (a a' : Option Addr) (n n' c c' : Nat) (l l' : List It) (w : World) (bb : Bool) (hbb : bb = true ↔ l = l') (h : ItsAt w a n c l) (h' : ItsAt w a' n' c' l') :
    Calls Tryz.prog 40 #[.slice a n c, .slice a' n' c'] w fun e w' => e = .returned (.bool bb) ∧ Below w.heap.size w w' := by
  have K := Lib.hid (fun W (hb : Below w.heap.size w W) => equalFunc_any a a' n n' c c' l l' W bb hbb (h.below hb) (h'.below hb))
  clear h h' hbb
  go_enter Tryz.func40, Tryz.ntmps40
  go_wp2_with fail
  refine (K.out _ (Below.refl _ _)).mono ?_
  rintro e w1 ⟨rfl, hb⟩
  go_wp2
  go_ret
  exact ⟨rfl, hb⟩
end Go.Proofs.YtbfjhjkllaceaaaGreatDoor

/- lwTree. -/
namespace Go.Proofs.YtbfjhjkllaceaaaGreatDoor
open Go.ChangeShapes Go.WideShapes Go.ChangeAt Go.RowKit
set_option linter.unusedVariables false

set_option maxHeartbeats 1600000 in
theorem lwTree_true (cd : Int) (a1 a2 : Option Addr) (n1 n2 c1 c2 : Nat) (l : List It) (w : World) (h1 : ItsAt w a1 n1 c1 l) (h2 : ItsAt w a2 n2 c2 l) :
    Calls Tryz.prog 15 #[.agg #[.int .i64 cd, .slice a1 n1 c1], .agg #[.int .i64 cd, .slice a2 n2 c2]] w fun e w' => e = .returned (.bool true) ∧ Below w.heap.size w w' := by
  have H1 := Lib.hid h1
  have H2 := Lib.hid h2
  clear h1 h2
  go_enter Tryz.func15, Tryz.ntmps15
  go_wp2_with fail
  refine (implSameTrees_any a1 a2 n1 n2 c1 c2 l l _ true (by simp) (H1.out.below (below2 _ _ _)) (H2.out.below (below2 _ _ _))).mono ?_
  rintro e w1 ⟨rfl, hb⟩
  have V1 := (((Var2.new w 31 cd (.slice a1 n1 c1)).alloc (.cells #[.int .i64 cd, .slice a2 n2 c2] 31)).below hb).c1
  have V2 := ((Var2.new (w.alloc (.cells #[.int .i64 cd, .slice a1 n1 c1] 31)) 31 cd (.slice a2 n2 c2)).below hb).c1
  have ez : (w.alloc (.cells #[.int .i64 cd, .slice a1 n1 c1] 31)).heap.size = w.heap.size + 1 := by simp
  rw [ez] at V2
  have HB := Lib.hid (below_then (below2 w _ _) hb)
  clear hb ez
  go_wp2_with fail
  refine (specSameTrees_any a1 a2 n1 n2 c1 c2 l l _ true (by simp) (H1.out.below HB.out) (H2.out.below HB.out)).mono ?_
  rintro e w2 ⟨rfl, nd, rfl⟩
  go_wp2
  go_ret
  exact ⟨rfl, below_drewN HB.out _⟩
end Go.Proofs.YtbfjhjkllaceaaaGreatDoor
