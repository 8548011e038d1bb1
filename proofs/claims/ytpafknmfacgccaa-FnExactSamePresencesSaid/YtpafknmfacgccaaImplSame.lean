/- slices.Equal over attributes, sameItems, slices.EqualFunc over items, impl.SameTrees. -/
import Derived.Test.YtpafknmfacgccaaSame2
import Derived.Deep.RegionHeld3
namespace Go.Proofs.Ytpafknmfacgccaa
open Go.ChangeShapes Go.WideShapes Go.ChangeAt Go.RowKit
set_option linter.unusedVariables false

set_option maxRecDepth 100000 in
set_option maxHeartbeats 1600000 in
theorem equalAttrs_any (a a' : Option Addr) (n n' c c' : Nat) (l l' : List At) (w : World) (bb : Bool) (hbb : bb = true ↔ l = l') (h : AtsAt w a n c l) (h' : AtsAt w a' n' c' l') :
    Calls Try.prog 56 #[.slice a n c, .slice a' n' c'] w fun e w' => e = .returned (.bool bb) ∧ ∃ n, w' = w.drewN n := by
  have hm := h.max
  have hm' := h'.max
  have HR := Lib.hid h.row
  have HR' := Lib.hid h'.row
  have HL := Lib.hid h.len
  have HL' := Lib.hid h'.len
  have HBB := Lib.hid hbb
  clear h h' hbb
  by_cases hnn : n = n'
  · subst hnn
    go_enter Try.func56, Try.ntmps56
    go_wp2
    go_loopw [13] (fun i wr => ∃ k : Nat, k ≤ n ∧ i = .int .i64 k ∧ l.take k = l'.take k ∧ ∃ n, wr = w.drewN n) (fun i _ => n - (intOf i).toNat)
    case atStart => exact ⟨0, Nat.zero_le _, rfl, rfl, 0, rfl⟩
    case round =>
      obtain ⟨k, hk, rfl, ht, hw⟩ := hrel
      have HW := Lib.hid hw
      have HT := Lib.hid ht
      clear ht hw
      by_cases hlt : k < n
      · rcases HR.out with e0 | ⟨b4, o4, rfl, h3, h4⟩
        · omega
        rcases HR'.out with e0 | ⟨b5, o5, rfl, h3', h4'⟩
        · omega
        have hbw : Below w.heap.size w wr := by obtain ⟨nd, rfl⟩ := HW.out; exact below_drewN (Below.refl _ _) nd
        have f0 := (hbw.cell (p := ⟨b4, o4 + k * 2, none⟩) h3).trans (h4 k hlt).1
        have f1 := (hbw.cell (p := ⟨b4, o4 + k * 2 + 1, none⟩) h3).trans (h4 k hlt).2
        have g0 := (hbw.cell (p := ⟨b5, o5 + k * 2, none⟩) h3').trans (h4' k hlt).1
        have g1 := (hbw.cell (p := ⟨b5, o5 + k * 2 + 1, none⟩) h3').trans (h4' k hlt).2
        clear h4 h4' hbw
        have k1 : (k : Int) < (n : Int) := by omega
        have HE : Hid (l.getD k dAt = l'.getD k dAt → l.take (k + 1) = l'.take (k + 1)) := Lib.hid fun e => by
          rw [take_snocD (by have := HL.out; omega), take_snocD (l := l') (by have := HL'.out; omega), HT.out, e]
        have HN : Hid (l.getD k dAt ≠ l'.getD k dAt → bb = false) := Lib.hid fun e => by
          rw [Bool.eq_false_iff]
          intro hb
          exact e (by rw [HBB.out.1 hb])
        obtain ⟨p, hp⟩ : ∃ p, l.getD k dAt = p := ⟨_, rfl⟩
        obtain ⟨q, hq⟩ : ∃ q, l'.getD k dAt = q := ⟨_, rfl⟩
        rw [hp] at f0 f1 HE HN
        rw [hq] at g0 g1 HE HN
        have HP := Lib.hid hp
        have HQ := Lib.hid hq
        clear hp hq
        obtain ⟨ps, pt⟩ := p
        obtain ⟨qs, qt⟩ := q
        dsimp only at f0 f1 g0 g1
        by_cases hne : ps = qs ∧ pt = qt
        · obtain ⟨rfl, rfl⟩ := hne
          have hfr := neqAttr ps pt ps pt true true (by simp) (by simp)
          go_wp2_with fail
          go_quiet (fail)
          go_wp2
          go_roundw
          case rel => exact ⟨k + 1, by omega, by go_num, HE.out trivial, drew_more HW.out _⟩
          case measure => simp [intOf]; omega
        · have hfr : ∀ w, (binOp .neq 75 (.agg #[.string ps, .string pt]) (.agg #[.string qs, .string qt])).run Try.prog w = .ok (.bool true) w := by
            intro W
            by_cases h1 : ps = qs
            · rw [neqAttr ps pt qs qt true false (by rw [h1]; simp) (toList_ne fun e => hne ⟨h1, e⟩)]; rfl
            · rw [neqAttr ps pt qs qt false _ (toList_ne h1) rfl]; rfl
          have HF := HN.out fun e => hne (by rw [At.mk.injEq] at e; exact e)
          subst HF
          clear hne HN HE
          go_wp2_with fail
          go_quiet (fail)
          go_wp2
          go_ret
          exact ⟨rfl, drew_more HW.out _⟩
      · obtain rfl : k = n := by omega
        have HF : bb = true := HBB.out.2 (by
          have := HT.out
          rw [List.take_of_length_le (by have := HL.out; omega), List.take_of_length_le (by have := HL'.out; omega)] at this
          exact this)
        subst HF
        go_wp2
        go_ret
        exact ⟨rfl, HW.out⟩
  · have HF : bb = false := by
      rw [Bool.eq_false_iff]
      exact fun hb => hnn (by rw [← HL.out, ← HL'.out, HBB.out.1 hb])
    subst HF
    have q1 : ((n : Int) != (n' : Int)) = true := by rw [bne_iff_ne]; omega
    have q2 : ((n : Int) == (n' : Int)) = false := by rw [beq_eq_false_iff_ne]; omega
    clear hnn
    go_enter Try.func56, Try.ntmps56
    go_wp2
    go_ret
    exact ⟨rfl, 0, rfl⟩

/-- what the equality of two items hangs on, field by field -/
theorem it_ne {x y : It} (bb : Bool) (hbb : bb = true ↔ x = y) (h : x ≠ y) : bb = false := by rw [Bool.eq_false_iff]; exact fun e => h (hbb.1 e)

set_option maxRecDepth 100000 in
set_option maxHeartbeats 1600000 in
theorem sameItems_any (x y : It) (a a' : Option Addr) (n n' c c' : Nat) (w : World) (bb : Bool) (hbb : bb = true ↔ x = y) (h : AtsAt w a n c x.attrs) (h' : AtsAt w a' n' c' y.attrs) :
    Calls Try.prog 48 #[.agg #[.int .i64 x.depth, .string x.text, .string x.space, .string x.name, .slice a n c], .agg #[.int .i64 y.depth, .string y.text, .string y.space, .string y.name, .slice a' n' c']] w fun e w' => e = .returned (.bool bb) ∧ Below w.heap.size w w' := by
  have HBB := Lib.hid hbb
  have K := Lib.hid (fun cc hcc W (hb : Below w.heap.size w W) => equalAttrs_any a a' n n' c c' x.attrs y.attrs W cc hcc (h.below hb) (h'.below hb))
  clear h h' hbb
  obtain ⟨xd, xt, xs, xn, xa⟩ := x
  obtain ⟨yd, yt, ys, yn, ya⟩ := y
  dsimp only at K ⊢
  by_cases hd : xd = yd
  · subst hd
    have q0 : (xd == xd) = true := by simp
    by_cases ht : xt = yt
    · subst ht
      by_cases hs : xs = ys
      · subst hs
        by_cases hn : xn = yn
        · subst hn
          have K2 := Lib.hid (K.out bb ⟨fun e => by have := HBB.out.1 e; rw [It.mk.injEq] at this; exact this.2.2.2.2, fun e => HBB.out.2 (by rw [e])⟩)
          go_enter Try.func48, Try.ntmps48
          go_wp2_with (go_at_call 56; refine (K2.out _ (below2 _ _ _)).mono ?_; rintro e w1 ⟨rfl, nd, rfl⟩)
          go_ret
          exact ⟨rfl, below_drewN (below2 _ _ _) _⟩
        · have q1 := toList_ne hn
          have HF := it_ne bb HBB.out (fun e => hn (by rw [It.mk.injEq] at e; exact e.2.2.2.1))
          subst HF
          clear hn
          go_enter Try.func48, Try.ntmps48
          go_wp2
          go_ret
          exact ⟨rfl, below2 _ _ _⟩
      · have q1 := toList_ne hs
        have HF := it_ne bb HBB.out (fun e => hs (by rw [It.mk.injEq] at e; exact e.2.2.1))
        subst HF
        clear hs
        go_enter Try.func48, Try.ntmps48
        go_wp2
        go_ret
        exact ⟨rfl, below2 _ _ _⟩
    · have q1 := toList_ne ht
      have HF := it_ne bb HBB.out (fun e => ht (by rw [It.mk.injEq] at e; exact e.2.1))
      subst HF
      clear ht
      go_enter Try.func48, Try.ntmps48
      go_wp2
      go_ret
      exact ⟨rfl, below2 _ _ _⟩
  · have q1 : (xd == yd) = false := by simpa using hd
    have HF := it_ne bb HBB.out (fun e => hd (by rw [It.mk.injEq] at e; exact e.1))
    subst HF
    clear hd
    go_enter Try.func48, Try.ntmps48
    go_wp2
    go_ret
    exact ⟨rfl, below2 _ _ _⟩
end Go.Proofs.Ytpafknmfacgccaa
