/- spec.l4Item, spec.l4Moved, spec.l4All. -/
import Derived.Test.YticpebpicdboaaaGreatDoorGY13
import Derived.Test.YticpebpicdboaaaGreatDoorGY11
import Derived.Maps.AppendAt
import Derived.Test.YticpebpicdboaaaGreatDoorGY9
import Derived.Test.YticpebpicdboaaaGreatDoorGY0
namespace Go.Proofs.YticpebpicdboaaaGreatDoor
open Go.ChangeShapes Go.WideShapes Go.ChangeAt Go.RowKit
set_option linter.unusedVariables false

set_option maxRecDepth 100000 in
set_option maxHeartbeats 1600000 in
theorem specItem_any (b o : Nat) (x : It) (by_ : Int) (w : World) (hd : -1000 ≤ x.depth ∧ x.depth ≤ 1000) (hby : -1000 ≤ by_ ∧ by_ ≤ 1000) (hn : x.attrs.length ≤ 1048576) (a4 : Option Addr) (n c4 : Nat) (hc4 : w.cell? ⟨b, o + 4, none⟩ = some (.slice a4 n c4)) (hnil : a4 = none → c4 = 0) (hat : AtsAt w a4 n c4 x.attrs) (h : ItAt w b o x) :
    Calls Tryz.prog 232 #[.pointer (some ⟨b, o, none⟩), .int .i64 by_] w (ItOwn w ⟨x.depth + by_, x.text, x.space, x.name, x.attrs⟩) := by
  obtain ⟨i0, hi, hz0, hz1, hz2⟩ := info_parts attrInfo
  have d0 := h.c0
  have d1 := h.c1
  have d2 := h.c2
  have d3 := h.c3
  have d4 := hc4
  have hlt := h.lt
  obtain ⟨d, s, t, u, l⟩ := x
  dsimp only at hd hn d0 d1 d2 d3 hat ⊢
  have HAT := Lib.hid hat
  have hn' : n ≤ 1048576 := by have := hat.len; omega
  have HL := Lib.hid hat.len
  clear h hat hc4
  have hb1 : b < w.heap.size + 1 := by omega
  have hb2 : b < w.heap.size + 1 + 1 := by omega
  cases a4 with
  | none =>
    obtain rfl : n = 0 := by
      rcases HAT.out.row with e | ⟨b5, o5, e5, _⟩
      · exact e
      · cases e5
    obtain rfl : c4 = 0 := hnil rfl
    obtain rfl : l = [] := List.length_eq_zero_iff.1 HL.out
    clear hnil
    go_enter Tryz.func232, Tryz.ntmps232
    go_wp2
    exact bodyPost_ret (v := .agg #[.int .i64 (d + by_), .string s, .string t, .string u, .slice (some ⟨w.heap.size + 1 + 1, 0, none⟩) 0 0]) (by simp [results, Tryz.results232, go_sem]) rfl
      ⟨_, _, _, rfl, ⟨⟨rfl, by omega, (fun i => by simp [dAt]), .inl rfl⟩, .inl rfl⟩, (fun e => by cases e), below3 _ _ _ _⟩
  | some ad =>
    go_enter Tryz.func232, Tryz.ntmps232
    go_wp2_with (at_builtin; refine wpList_append_own_at _ rfl _ _ 72 rfl w.heap.size 75 i0 _ 2 32 Tryz.underlying72 hi hz0 hz1 hz2 rfl (by decide) _ 0 [] rfl ?c0 ad n c4 (flatA l) rfl ?c6 ?c1 ?c2 ?c3 ?c4 ?c5 ?_)
    case c0 => exact lit_behind2 w _ _
    case c6 => rw [flatA_length, HL.out]
    case c1 => exact (HAT.out.below (below3 _ _ _ _)).flat
    case c2 => exact flatA_one l
    case c3 => unfold maxLen; omega
    case c4 => omega
    case c5 => simp; omega
    intro v' w1 hown hgrow hnn hblk
    obtain ⟨a', c', rfl⟩ := owns_slice hown
    have HBLK := Lib.hid hblk
    have HNN := Lib.hid hnn
    clear hblk hnn
    have HOWN := Lib.hid hown
    have hon := Only.grown hgrow
    have HON := Lib.hid hon
    have p00 : w1.cell? ⟨w.heap.size, 0, none⟩ = some (.int .i64 0) := (hon.cell (p := ⟨w.heap.size, 0, none⟩) (by simp; omega) (by simp [Value.ownBlock]; omega)).trans (by go_simp)
    have p10 : w1.cell? ⟨w.heap.size + 1, 0, none⟩ = some (.int .i64 (d + by_)) := (hon.cell (p := ⟨w.heap.size + 1, 0, none⟩) (by simp) (by simp [Value.ownBlock])).trans (by go_simp)
    have f00 : w1.frozen? ⟨w.heap.size, 0, none⟩ = false := (hon.frozen (p := ⟨w.heap.size, 0, none⟩) (by simp; omega) (by simp [Value.ownBlock]; omega)).trans (by go_simp)
    have p01 : w1.cell? ⟨w.heap.size, 1, none⟩ = some (.string { data := #[] }) := (hon.cell (p := ⟨w.heap.size, 1, none⟩) (by simp; omega) (by simp [Value.ownBlock]; omega)).trans (by go_simp)
    have p11 : w1.cell? ⟨w.heap.size + 1, 1, none⟩ = some (.string s) := (hon.cell (p := ⟨w.heap.size + 1, 1, none⟩) (by simp) (by simp [Value.ownBlock])).trans (by go_simp)
    have f01 : w1.frozen? ⟨w.heap.size, 1, none⟩ = false := (hon.frozen (p := ⟨w.heap.size, 1, none⟩) (by simp; omega) (by simp [Value.ownBlock]; omega)).trans (by go_simp)
    have p02 : w1.cell? ⟨w.heap.size, 2, none⟩ = some (.string { data := #[] }) := (hon.cell (p := ⟨w.heap.size, 2, none⟩) (by simp; omega) (by simp [Value.ownBlock]; omega)).trans (by go_simp)
    have p12 : w1.cell? ⟨w.heap.size + 1, 2, none⟩ = some (.string t) := (hon.cell (p := ⟨w.heap.size + 1, 2, none⟩) (by simp) (by simp [Value.ownBlock])).trans (by go_simp)
    have f02 : w1.frozen? ⟨w.heap.size, 2, none⟩ = false := (hon.frozen (p := ⟨w.heap.size, 2, none⟩) (by simp; omega) (by simp [Value.ownBlock]; omega)).trans (by go_simp)
    have p03 : w1.cell? ⟨w.heap.size, 3, none⟩ = some (.string { data := #[] }) := (hon.cell (p := ⟨w.heap.size, 3, none⟩) (by simp; omega) (by simp [Value.ownBlock]; omega)).trans (by go_simp)
    have p13 : w1.cell? ⟨w.heap.size + 1, 3, none⟩ = some (.string u) := (hon.cell (p := ⟨w.heap.size + 1, 3, none⟩) (by simp) (by simp [Value.ownBlock])).trans (by go_simp)
    have f03 : w1.frozen? ⟨w.heap.size, 3, none⟩ = false := (hon.frozen (p := ⟨w.heap.size, 3, none⟩) (by simp; omega) (by simp [Value.ownBlock]; omega)).trans (by go_simp)
    have p04 : w1.cell? ⟨w.heap.size, 4, none⟩ = some (.slice none 0 0) := (hon.cell (p := ⟨w.heap.size, 4, none⟩) (by simp; omega) (by simp [Value.ownBlock]; omega)).trans (by go_simp)
    have p14 : w1.cell? ⟨w.heap.size + 1, 4, none⟩ = some (.slice (some ad) n c4) := (hon.cell (p := ⟨w.heap.size + 1, 4, none⟩) (by simp) (by simp [Value.ownBlock])).trans (by go_simp)
    have f04 : w1.frozen? ⟨w.heap.size, 4, none⟩ = false := (hon.frozen (p := ⟨w.heap.size, 4, none⟩) (by simp; omega) (by simp [Value.ownBlock]; omega)).trans (by go_simp)
    have f14 : w1.frozen? ⟨w.heap.size + 1, 4, none⟩ = false := (hon.frozen (p := ⟨w.heap.size + 1, 4, none⟩) (by simp) (by simp [Value.ownBlock])).trans (by go_simp)
    clear hown hgrow hon
    go_wp2
    refine bodyPost_ret (v := .agg #[.int .i64 (d + by_), .string s, .string t, .string u, .slice a' n c']) (by simp [results, Tryz.results232, go_sem, p00, p01, p02, p03, p04]) rfl ⟨_, _, _, rfl, ?_, ?_, ?_⟩
    · have hz : w.heap.size + 2 < w1.heap.size := by have := HON.out.size; simp at this; omega
      have h0 : OwnAts w1 w.heap.size w1.heap.size a' n c' l := ownAts_of HOWN.out (by omega) HAT.out.size
      have hap : ∀ y, a' = some y → n ≠ 0 → ¬ (y.block = w.heap.size ∨ y.block = w.heap.size + 1) := fun y hy hne hq => by
        subst hy
        have := HBLK.out
        simp [Value.ownBlock] at this
        omega
      have st : ∀ (W : World) (p : Addr) (v : Value), (p.block = w.heap.size ∨ p.block = w.heap.size + 1) → OwnAts W w.heap.size w1.heap.size a' n c' l → OwnAts (W.setCell p v) w.heap.size w1.heap.size a' n c' l := fun W p v hp h =>
        h.only (Only.set (P := fun i => i = w.heap.size ∨ i = w.heap.size + 1) W p v hp) hap
      have := st _ ⟨w.heap.size, 4, none⟩ (.slice a' n c') (.inl rfl) (st _ ⟨w.heap.size, 3, none⟩ (.string u) (.inl rfl) (st _ ⟨w.heap.size, 2, none⟩ (.string t) (.inl rfl) (st _ ⟨w.heap.size, 1, none⟩ (.string s) (.inl rfl) (st _ ⟨w.heap.size, 0, none⟩ (.int .i64 (d + by_)) (.inl rfl) (st _ ⟨w.heap.size + 1, 4, none⟩ (.slice a' n c') (.inr rfl) h0)))))
      simpa using this
    · intro e
      subst e
      have := HBLK.out
      simp [Value.ownBlock] at this
    · have hb : Below w.heap.size w w1 := (below3 _ _ _ _).trans ⟨HON.out.os, HON.out.tape, HON.out.output, HON.out.size, fun i hi => HON.out.block i (by simp; omega) (by simp [Value.ownBlock]; omega)⟩
      exact (((((hb.setCell (by simp) _).setCell (by simp) _).setCell (by simp) _).setCell (by simp) _).setCell (by simp) _).setCell (by simp) _

/-- a new slice of items of its own, at some address -/
def ItsOwnS (w : World) (l : List It) (e : Ending) (w' : World) : Prop := ∃ x n c, e = .returned (.slice (some x) n c) ∧ OwnIts w' w.heap.size w'.heap.size (some x) n c l ∧ Below w.heap.size w w'
theorem owns_some {w : World} {base : Nat} {e : TypeId} {size n c : Nat} {a : Option Addr} {xs : List Value} (h : w.ownsRow base e size (.slice a n c) n xs) (hn : n ≠ 0) : ∃ x, a = some x := by
  rcases h.2 with ⟨_, h0⟩ | ⟨g, cap, cur, hv, _⟩
  · exact absurd h0 hn
  · simp only [Value.slice.injEq] at hv
    exact ⟨_, hv.1⟩
set_option maxRecDepth 100000 in
set_option maxHeartbeats 3200000 in
theorem specMoved_any (lo hi : Nat) (a : Option Addr) (n c f e : Nat) (by_ : Int) (l : List It) (w : World) (hd : ∀ i, i < n → -1000 ≤ (l.getD i dIt).depth ∧ (l.getD i dIt).depth ≤ 1000) (hby : -1000 ≤ by_ ∧ by_ ≤ 1000) (hA : ∀ i, i < n → (l.getD i dIt).attrs.length ≤ 1048576)
    (hf : f ≤ e) (he : e ≤ n) (h : OwnIts w lo hi a n c l) :
    Calls Tryz.prog 153 #[.slice a n c, .int .i64 f, .int .i64 e, .int .i64 by_] w (ItsOwnS w (movedTo l f e by_)) := by
  obtain ⟨i0, hi0, hz0, hz1, hz2⟩ := info_parts itemInfo
  have hm := h.max
  have HD := Lib.hid hd
  have HA := Lib.hid hA
  have HR := Lib.hid h.row
  have HIT := Lib.hid h.it
  clear h hd hA
  go_enter Tryz.func153, Tryz.ntmps153
  go_wp2
  go_loopw [9, 10] (fun v i wr => ∃ (k : Nat) (av : Option Addr) (nv cv : Nat) (A : Nat → Option Addr) (N C : Nat → Nat), f ≤ k ∧ k ≤ e ∧ i = .int .i64 k ∧ v = .slice av nv cv ∧ (∃ x, av = some x) ∧ GrowIts wr w.heap.size (.slice av nv cv) nv (movedTo l f k by_) A N C ∧ Below w.heap.size w wr) (fun _ i _ => e - (intOf i).toNat)
  case atStart =>
    refine ⟨f, some ⟨w.heap.size, 0, none⟩, 0, 0, fun _ => none, fun _ => 0, fun _ => 0, Nat.le_refl _, hf, rfl, rfl, ⟨_, rfl⟩, ?_, below1 _ _⟩
    have h0 : movedTo l f f by_ = [] := by simp [movedTo]
    rw [h0]
    exact ⟨lit_item w, fun i hi => by simp at hi, fun i hi => by simp at hi, fun i j hi => by simp at hi⟩
  case round =>
    obtain ⟨k, av, nv, cv, A, N, C, hk1, hk2, rfl, rfl, hsome, hg, hb⟩ := hrel
    have HG := Lib.hid hg
    have HB := Lib.hid hb
    have hnv : nv ≤ 1048576 := by have := hg.len; rw [movedTo_length] at this; omega
    clear hg hb
    by_cases hlt : k < e
    · obtain ⟨b, A2, N2, C2, rfl, hlo, hhi, hroom, hcs, _, _⟩ := HR.out.resolve_left (by omega)
      have hown := hcs k (by omega)
      have hbb := hroom.1
      have hit := HIT.out k (by omega)
      have hcell := hown.1.below hbb HB.out
      have hats := hown.2.ats.below HB.out
      have hI : ItAt wr b (k * 5) (l.getD k dIt) := ⟨Nat.lt_of_lt_of_le hbb HB.out.size, hit.1, hit.2, hcell.c0, hcell.c1, hcell.c2, hcell.c3, _, _, _, hcell.c4, hats⟩
      have K := Lib.hid (specItem_any b (k * 5) (l.getD k dIt) by_ wr (HD.out k (by omega)) hby (HA.out k (by omega)) _ _ _ hcell.c4 hcell.nil hats hI)
      have HST := Lib.hid (movedTo_step l hk1 by_)
      have q0 : (k : Int) < (n : Int) := by omega
      clear hroom hcs hown hit hcell hats hI
      generalize l.getD k dIt = x at K HST
      obtain ⟨xd, xt, xs, xn, xa⟩ := x
      dsimp only at K HST
      go_wp2_with fail
      refine K.out.mono ?_
      rintro en w1 ⟨a5, n5, c5, rfl, hat5, hnil5, hb1⟩
      dsimp only at hat5
      have HG1 := Lib.hid (HG.out.below hb1)
      have HAT5 := Lib.hid hat5
      have HNIL5 := Lib.hid hnil5
      have HB1 := Lib.hid hb1
      have HBW1 := Lib.hid (HB.out.trans (hb1.mono HB.out.size))
      clear hat5 hnil5 hb1
      go_wp2_with (at_builtin; refine wpList_append_own_at _ rfl _ _ 24 rfl w.heap.size 77 i0 _ 5 80 Tryz.underlying24 hi0 hz0 hz1 hz2 rfl (by decide) _ nv _ rfl (HG1.out.row.alloc _) ⟨w1.heap.size, 0, none⟩ 1 1 [.int .i64 (xd + by_), .string xt, .string xs, .string xn, .slice a5 n5 c5] rfl rfl ?c1 ?c2 ?c3 ?c4 ?c5 ?_)
      case c1 =>
        intro j v hj
        match j, hj with
        | 0, hj => simp at hj; subst hj; rw [Addr.add_lit]; go_simp
        | 1, hj => simp at hj; subst hj; rw [Addr.add_lit]; go_simp
        | 2, hj => simp at hj; subst hj; rw [Addr.add_lit]; go_simp
        | 3, hj => simp at hj; subst hj; rw [Addr.add_lit]; go_simp
        | 4, hj => simp at hj; subst hj; rw [Addr.add_lit]; go_simp
        | j + 5, hj => simp at hj
      case c2 => intro v hv; simp at hv; rcases hv with rfl | rfl | rfl | rfl | rfl <;> rfl
      case c3 => unfold maxLen; omega
      case c4 => omega
      case c5 => have := HBW1.out.size; simp; omega
      intro v' w2 hown' hgrow _ hblk
      obtain ⟨a', c', rfl⟩ := owns_slice hown'
      have HSM := Lib.hid (owns_some hown' (by omega))
      have HG2 : Hid (GrowIts w2 w.heap.size (.slice a' (nv + 1) c') (nv + 1) (movedTo l f (k + 1) by_) (putA (movedTo l f k by_).length a5 A) (putA (movedTo l f k by_).length n5 N) (putA (movedTo l f k by_).length c5 C)) := Lib.hid (by
        rw [HST.out]
        have h5 := HAT5.out.only (Only.below (P := fun _ => False) (below1 w1 (.cells #[.int .i64 (xd + by_), .string xt, .string xs, .string xn, .slice a5 n5 c5] 77))) fun _ _ _ h => h
        refine HG.out.snoc (x := ⟨xd + by_, xt, xs, xn, xa⟩) (w0 := w1.alloc (.cells #[.int .i64 (xd + by_), .string xt, .string xs, .string xn, .slice a5 n5 c5] 77)) (below_then HB1.out (below1 _ _)) ⟨h5.ats, h5.own.imp id fun ⟨b5, g1, g2, g3, g4⟩ => ⟨b5, g1, g2, by simp; omega, g4⟩⟩ HNIL5.out HB.out.size hown' hgrow ?_
        rcases hblk with e | e
        · exact .inl e
        · exact .inr ⟨_, e, by simp⟩)
      have HB2 := Lib.hid (below_appended HBW1.out HG1.out.row hgrow)
      clear hown' hgrow hblk
      go_wp2
      go_roundw
      case rel => exact ⟨k + 1, a', _, c', _, _, _, by omega, by omega, by go_num, rfl, HSM.out, HG2.out, HB2.out⟩
      case measure => simp [intOf]; omega
    · obtain rfl : k = e := by omega
      go_wp2
      go_ret
      obtain ⟨x, rfl⟩ := hsome
      refine ⟨x, nv, cv, rfl, HG.out.own hnv fun i hi => ?_, HB.out⟩
      have hlen := HG.out.len
      rw [movedTo_length] at hlen
      rw [movedTo_get l f k by_ i (by omega)]
      have h1 := HIT.out (f + i) (by omega)
      have h2 := HD.out (f + i) (by omega)
      exact ⟨⟨by show _ ≤ (l.getD (f + i) dIt).depth + by_; omega, by show (l.getD (f + i) dIt).depth + by_ ≤ _; omega⟩, h1.2⟩

theorem specAll_any (lo hi : Nat) (a : Option Addr) (n c : Nat) (by_ : Int) (l : List It) (w : World) (hd : ∀ i, i < n → -1000 ≤ (l.getD i dIt).depth ∧ (l.getD i dIt).depth ≤ 1000) (hby : -1000 ≤ by_ ∧ by_ ≤ 1000) (hA : ∀ i, i < n → (l.getD i dIt).attrs.length ≤ 1048576)
    (h : OwnIts w lo hi a n c l) :
    Calls Tryz.prog 78 #[.slice a n c, .int .i64 by_] w (ItsOwnS w (movedTo l 0 n by_)) := by
  have hm := h.max
  have K := Lib.hid (specMoved_any lo hi a n c 0 n by_ l w hd hby hA (Nat.zero_le _) (Nat.le_refl _) h)
  clear h hd hA
  go_enter Tryz.func78, Tryz.ntmps78
  go_wp2_with fail
  refine K.out.mono ?_
  rintro e w1 ⟨a1, n1, c1, rfl, hown, hb⟩
  have HO := Lib.hid hown
  have HB := Lib.hid hb
  clear hown hb
  go_wp2
  go_ret
  exact ⟨_, _, _, rfl, HO.out, HB.out⟩
end Go.Proofs.YticpebpicdboaaaGreatDoor

/- Two rows of items, one appended to the other. -/
namespace Go.Proofs.YticpebpicdboaaaGreatDoor
open Go.ChangeShapes Go.WideShapes Go.ChangeAt Go.RowKit
set_option linter.unusedVariables false

theorem cellI_five {l : List It} {A : Nat → Option Addr} {N C : Nat → Nat} (i q : Nat) (hq : q < 5) :
    cellI l A N C (i * 5 + q) = if q = 0 then .int .i64 (l.getD i dIt).depth else if q = 1 then .string (l.getD i dIt).text else if q = 2 then .string (l.getD i dIt).space else if q = 3 then .string (l.getD i dIt).name else .slice (A i) (N i) (C i) := by
  unfold cellI
  rw [show (i * 5 + q) % 5 = q by omega, show (i * 5 + q) / 5 = i by omega]
/-- the cells of a row of items of one's own, in their order -/
theorem OwnIts.flat {w : World} {lo hi b n c : Nat} {l : List It} (h : OwnIts w lo hi (some ⟨b, 0, none⟩) n c l) (hn : n ≠ 0) :
    ∃ (A : Nat → Option Addr) (N C : Nat → Nat), (∀ j u, (flatI l A N C)[j]? = some u → w.cell? ((⟨b, 0, none⟩ : Addr).add j) = some u) ∧ (∀ i, i < n → OwnAts w lo hi (A i) (N i) (C i) (l.getD i dIt).attrs) := by
  obtain ⟨b', A, N, C, hb, _, _, _, hc, _, _⟩ := h.row.resolve_left hn
  simp only [Option.some.injEq, Addr.mk.injEq, and_true] at hb
  subst hb
  refine ⟨A, N, C, fun j u hj => ?_, fun i hi => (hc i hi).2⟩
  have hlt : j < l.length * 5 := by
    rcases Nat.lt_or_ge j (l.length * 5) with h1 | h1
    · exact h1
    · rw [List.getElem?_eq_none (by rw [flatI_length]; exact h1)] at hj; cases hj
  have hl := h.len
  rw [flatI_get _ _ _ _ _ hlt] at hj
  have hu := Option.some.inj hj
  have h5 := (hc (j / 5) (by omega)).1
  have e : j = j / 5 * 5 + j % 5 := by omega
  have hq : j % 5 < 5 := by omega
  rw [e] at hu ⊢
  rw [cellI_five _ _ hq] at hu
  rw [Addr.add_lit, Nat.zero_add]
  generalize j % 5 = q at hu hq ⊢
  generalize j / 5 = i at hu h5 ⊢
  rcases q with _ | _ | _ | _ | _ | q
  · rw [← hu]; exact h5.c0
  · rw [← hu]; exact h5.c1
  · rw [← hu]; exact h5.c2
  · rw [← hu]; exact h5.c3
  · rw [← hu]; exact h5.c4
  · omega
def WideIt (x : It) : Prop := (-9223372036854775808 ≤ x.depth ∧ x.depth ≤ 9223372036854775807) ∧ (x.text.size ≤ 9223372036854775807 ∧ x.space.size ≤ 9223372036854775807 ∧ x.name.size ≤ 9223372036854775807)
/-- behind an append of a row to a row that has grown -/
theorem its_join {w w1 : World} {B g m c k lo hi : Nat} {l l2 : List It} {A A2 : Nat → Option Addr} {N C N2 C2 : Nat → Nat} (h : GrowIts w B (.slice (some ⟨g, 0, none⟩) m c) m l A N C)
    (hl : ∀ i, i < m → WideIt (l.getD i dIt)) (hl2 : ∀ i, i < k → WideIt (l2.getD i dIt)) (hk : l2.length = k) (hmk : m + k ≤ 1048576)
    (h2 : ∀ i, i < k → OwnAts w lo hi (A2 i) (N2 i) (C2 i) (l2.getD i dIt).attrs) (hap : ∀ i, i < k → ∀ x, A2 i = some x → N2 i ≠ 0 → x.block ≠ g)
    {a : Option Addr} {q' : Nat} (hown : w1.ownsRow B 77 5 (.slice a (m + k) q') (m + k) (flatI l A N C ++ flatI l2 A2 N2 C2)) (hg : w.grownBy w1 (some g)) (hm : 0 < m) :
    ItsAt w1 a (m + k) q' (l ++ l2) := by
  have hlen := h.len
  rcases hown.2 with ⟨_, h0⟩ | ⟨g', cap, cur, hv, hb', hg', _⟩
  · omega
  · simp only [Value.slice.injEq] at hv
    obtain ⟨rfl, _, rfl⟩ := hv
    have hlt := (hown.lt g' rfl).2
    refine ⟨by rw [List.length_append]; omega, by omega, .inr ⟨g', 0, rfl, fun i hi => ?_⟩⟩
    rw [Nat.zero_add]
    by_cases hi2 : i < m
    · have e : (l ++ l2).getD i dIt = l.getD i dIt := by rw [List.getD_eq_getElem?_getD, List.getElem?_append_left (by omega), ← List.getD_eq_getElem?_getD]
      rw [e]
      have hc : ∀ q, q < 5 → w1.cell? ⟨g', i * 5 + q, none⟩ = some (cellI l A N C (i * 5 + q)) := fun q hq => by
        rw [hown.cellAt _ (by omega), List.getElem?_append_left (by rw [flatI_length]; omega), flatI_get _ _ _ _ _ (by omega)]
      have hw := hl i hi2
      refine ⟨hlt, hw.1, hw.2, (hc 0 (by omega)).trans (by rw [cellI_five i 0 (by omega)]; rfl), (hc 1 (by omega)).trans (by rw [cellI_five i 1 (by omega)]; rfl), (hc 2 (by omega)).trans (by rw [cellI_five i 2 (by omega)]; rfl), (hc 3 (by omega)).trans (by rw [cellI_five i 3 (by omega)]; rfl), A i, N i, C i, (hc 4 (by omega)).trans (by rw [cellI_five i 4 (by omega)]; rfl), ?_⟩
      exact (h.ats i (by omega)).1.ats.only (Only.grown hg) fun x hx hne hp => h.apart i (by omega) x hx hne (by simp only [Option.some.injEq] at hp; rw [hp]; rfl)
    · have e : (l ++ l2).getD i dIt = l2.getD (i - m) dIt := by rw [List.getD_eq_getElem?_getD, List.getElem?_append_right (by omega), hlen, ← List.getD_eq_getElem?_getD]
      rw [e]
      have hc : ∀ q, q < 5 → w1.cell? ⟨g', i * 5 + q, none⟩ = some (cellI l2 A2 N2 C2 ((i - m) * 5 + q)) := fun q hq => by
        rw [hown.cellAt _ (by omega), List.getElem?_append_right (by rw [flatI_length]; omega), flatI_length, show i * 5 + q - l.length * 5 = (i - m) * 5 + q by omega, flatI_get _ _ _ _ _ (by omega)]
      have hw := hl2 (i - m) (by omega)
      refine ⟨hlt, hw.1, hw.2, (hc 0 (by omega)).trans (by rw [cellI_five _ 0 (by omega)]; rfl), (hc 1 (by omega)).trans (by rw [cellI_five _ 1 (by omega)]; rfl), (hc 2 (by omega)).trans (by rw [cellI_five _ 2 (by omega)]; rfl), (hc 3 (by omega)).trans (by rw [cellI_five _ 3 (by omega)]; rfl), A2 (i - m), N2 (i - m), C2 (i - m), (hc 4 (by omega)).trans (by rw [cellI_five _ 4 (by omega)]; rfl), ?_⟩
      exact (h2 (i - m) (by omega)).ats.only (Only.grown hg) fun x hx hne hp => hap (i - m) (by omega) x hx hne (by simp only [Option.some.injEq] at hp; exact hp)
end Go.Proofs.YticpebpicdboaaaGreatDoor

/- Facts on the tree of another format. -/
namespace Go.Proofs.YticpebpicdboaaaGreatDoor
open Go.ChangeShapes Go.WideShapes Go.ChangeAt Go.RowKit
set_option linter.unusedVariables false

theorem presCode_shown {p : Pr} (h : presCode p = 0) : 0 ≤ p.shown ∧ p.shown ≤ 4 := by
  unfold presCode at h
  split at h
  · omega
  · rename_i h1
    rw [Bool.not_eq_false, Bool.and_eq_true, Bool.and_eq_true] at h1
    simpa [inB] using h1.1.2
theorem projT_small {p : Pr} (h : SmallPr p) : (projT p).sender.size ≤ 1000 := by
  unfold projT
  by_cases hc : projCode p = 0
  · rw [if_pos hc]
    unfold projCode at hc
    show p.sender.size ≤ 1000
    split at hc
    · omega
    · split at hc
      · omega
      · split at hc
        · omega
        · omega
  · rw [if_neg hc]
    decide
theorem projT_good (p : Pr) : ((projT p).kind = 0 ∨ (projT p).kind = 1) ∧ ((projT p).shown = 0 ∨ (projT p).shown = 1 ∨ (projT p).shown = 3) := by
  unfold projT
  by_cases hc : projCode p = 0
  · rw [if_pos hc]
    unfold projCode at hc
    split at hc
    · omega
    · rename_i h1
      have h0 : presCode p = 0 := Decidable.not_not.1 h1
      have hk := presCode_kind h0
      have hs := presCode_shown h0
      split at hc
      · omega
      · rename_i h2
        have hk2 : ¬ 1 < p.kind := fun h => h2 (by unfold askB; rw [decide_eq_true h]; rfl)
        refine ⟨by show p.kind = 0 ∨ p.kind = 1; omega, ?_⟩
        show sharedS p.shown = 0 ∨ sharedS p.shown = 1 ∨ sharedS p.shown = 3
        unfold sharedS
        split
        · exact .inl rfl
        · split
          · exact .inr (.inl rfl)
          · omega
  · rw [if_neg hc]
    exact ⟨.inl rfl, .inl rfl⟩
theorem pidfL_len (q : Pr) : (pidfL q).length ≤ 11 := by
  have h1 : (actsP8 q.shown).length ≤ 2 := by unfold actsP8; split <;> simp
  have h2 : (contP8 q.sender q.prio).length ≤ 2 := by unfold contP8; split <;> simp
  have h3 : (noteP8 q.status).length ≤ 2 := by unfold noteP8; split <;> simp
  unfold pidfL headP8
  simp only [List.length_append, List.length_cons, List.length_nil]
  omega
theorem pidf_len (p : Pr) : (pidfT p).length ≤ 11 := by
  unfold pidfT
  split
  · exact pidfL_len _
  · simp
theorem wide_elem (d : Int) (sp nm : ByteArray) (es : List At) (h1 : -10 ≤ d ∧ d ≤ 10) (h2 : sp.size ≤ 1000) (h3 : nm.size ≤ 1000) : WideIt (elemI d sp nm es) :=
  ⟨⟨by show -9223372036854775808 ≤ d; omega, by show d ≤ _; omega⟩, by show (⟨#[]⟩ : ByteArray).size ≤ _; decide, by show sp.size ≤ _; omega, by show nm.size ≤ _; omega⟩
theorem wide_text (d : Int) (t : ByteArray) (h1 : -10 ≤ d ∧ d ≤ 10) (h2 : t.size ≤ 9223372036854775807) : WideIt (textI d t) :=
  ⟨⟨by show -9223372036854775808 ≤ d; omega, by show d ≤ _; omega⟩, h2, by show (⟨#[]⟩ : ByteArray).size ≤ _; decide, by show (⟨#[]⟩ : ByteArray).size ≤ _; decide⟩
theorem wide_pidfL (q : Pr) (h1 : q.sender.size ≤ 1000) (h2 : q.status.size ≤ 9223372036854775807) : ∀ x ∈ pidfL q, WideIt x := by
  have sp1 : pidfSp.size ≤ 1000 := by decide
  have sp2 : rpidSp.size ≤ 1000 := by decide
  intro x hx
  unfold pidfL at hx
  rw [List.mem_append, List.mem_append, List.mem_append] at hx
  rcases hx with ((hx | hx) | hx) | hx
  · unfold headP8 at hx
    simp only [List.mem_cons, List.not_mem_nil, or_false] at hx
    rcases hx with rfl | rfl | rfl | rfl | rfl
    · exact wide_elem _ _ _ _ (by omega) sp1 (by decide)
    · exact wide_elem _ _ _ _ (by omega) sp1 (by decide)
    · exact wide_elem _ _ _ _ (by omega) sp1 (by decide)
    · exact wide_elem _ _ _ _ (by omega) sp1 (by decide)
    · exact wide_text _ _ (by omega) (by unfold basicW; split <;> decide)
  · unfold actsP8 at hx
    split at hx
    · cases hx
    · simp only [List.mem_cons, List.not_mem_nil, or_false] at hx
      rcases hx with rfl | rfl
      · exact wide_elem _ _ _ _ (by omega) sp2 (by decide)
      · exact wide_elem _ _ _ _ (by omega) sp2 (by unfold actW; split <;> decide)
  · unfold contP8 at hx
    split at hx
    · cases hx
    · simp only [List.mem_cons, List.not_mem_nil, or_false] at hx
      rcases hx with rfl | rfl
      · exact wide_elem _ _ _ _ (by omega) sp1 (by decide)
      · exact wide_text _ _ (by omega) (by rw [ByteArray.size_append]; have : xmppP.size = 5 := rfl; omega)
  · unfold noteP8 at hx
    split at hx
    · cases hx
    · simp only [List.mem_cons, List.not_mem_nil, or_false] at hx
      rcases hx with rfl | rfl
      · exact wide_elem _ _ _ _ (by omega) sp1 (by decide)
      · exact wide_text _ _ (by omega) h2
theorem pidf_wide (p : Pr) (h : SmallPr p) (h0 : projCode p = 0) (i : Nat) (hi : i < (pidfT p).length) : WideIt ((pidfT p).getD i dIt) := by
  have e : pidfT p = pidfL (projT p) := by unfold pidfT projT; rw [if_pos h0, if_pos h0]
  have es : (projT p).status = p.status := by unfold projT; rw [if_pos h0]; rfl
  rw [e] at hi ⊢
  rw [List.getD_eq_getElem?_getD, List.getElem?_eq_getElem hi]
  exact wide_pidfL _ (projT_small h) (by rw [es]; have := h.texts; omega) _ (List.getElem_mem hi)
end Go.Proofs.YticpebpicdboaaaGreatDoor

/- A code and a number: handed back. -/
namespace Go.Proofs.YticpebpicdboaaaGreatDoor
open Go.ChangeShapes Go.WideShapes Go.ChangeAt Go.RowKit
set_option linter.unusedVariables false
/-- a struct of two integers is handed back -/
def Res2 (w : World) (x y : Int) (e : Ending) (w' : World) : Prop := e = .returned (.agg #[.int .i64 x, .int .i64 y]) ∧ Below w.heap.size w w'
end Go.Proofs.YticpebpicdboaaaGreatDoor
