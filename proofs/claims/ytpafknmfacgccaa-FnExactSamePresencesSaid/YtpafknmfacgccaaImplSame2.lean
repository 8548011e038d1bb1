/- slices.EqualFunc over items, impl.SameTrees. -/
import Derived.Test.YtpafknmfacgccaaImplSame
namespace Go.Proofs.Ytpafknmfacgccaa
open Go.ChangeShapes Go.WideShapes Go.ChangeAt Go.RowKit
set_option linter.unusedVariables false

set_option maxRecDepth 100000 in
set_option maxHeartbeats 1600000 in
theorem equalFunc_any (a a' : Option Addr) (n n' c c' : Nat) (l l' : List It) (w : World) (bb : Bool) (hbb : bb = true ↔ l = l') (h : ItsAt w a n c l) (h' : ItsAt w a' n' c' l') :
    Calls Try.prog 47 #[.slice a n c, .slice a' n' c', .func (.func 48) #[] #[]] w fun e w' => e = .returned (.bool bb) ∧ Below w.heap.size w w' := by
  have hm := h.max
  have hm' := h'.max
  have HR := Lib.hid h.row
  have HR' := Lib.hid h'.row
  have HL := Lib.hid h.len
  have HL' := Lib.hid h'.len
  have HBB := Lib.hid hbb
  clear h h' hbb
  by_cases hnn : n = n'
  · subst hnn
    go_enter Try.func47, Try.ntmps47
    go_wp2
    go_loopw [17] (fun i wr => ∃ k : Nat, k ≤ n ∧ i = .int .i64 k ∧ l.take k = l'.take k ∧ Below w.heap.size w wr) (fun i _ => n - (intOf i).toNat)
    case atStart => exact ⟨0, Nat.zero_le _, rfl, rfl, Below.refl _ _⟩
    case round =>
      obtain ⟨k, hk, rfl, ht, hb⟩ := hrel
      have HT := Lib.hid ht
      clear ht
      by_cases hlt : k < n
      · rcases HR.out with e0 | ⟨b, o, rfl, h4⟩
        · omega
        rcases HR'.out with e0 | ⟨b', o', rfl, h4'⟩
        · omega
        have hi := (h4 k hlt).below hb
        have hi' := (h4' k hlt).below hb
        have d0 := hi.c0
        have d1 := hi.c1
        have d2 := hi.c2
        have d3 := hi.c3
        obtain ⟨a4, n4, c4, d4, hat⟩ := hi.c4
        have e0 := hi'.c0
        have e1 := hi'.c1
        have e2 := hi'.c2
        have e3 := hi'.c3
        obtain ⟨a5, n5, c5, e4, hat'⟩ := hi'.c4
        have hbl := hi.lt
        have hbl' := hi'.lt
        have k1 : (k : Int) < (n : Int) := by omega
        have HE : Hid (l.getD k dIt = l'.getD k dIt → l.take (k + 1) = l'.take (k + 1)) := Lib.hid fun e => by
          rw [take_snocI (by have := HL.out; omega), take_snocI (l := l') (by have := HL'.out; omega), HT.out, e]
        have HN : Hid (l.getD k dIt ≠ l'.getD k dIt → bb = false) := Lib.hid fun e => by
          rw [Bool.eq_false_iff]
          intro hb
          exact e (by rw [HBB.out.1 hb])
        have K := Lib.hid (fun cc hcc W (hb' : Below wr.heap.size wr W) => sameItems_any (l.getD k dIt) (l'.getD k dIt) a4 a5 n4 n5 c4 c5 W cc hcc (hat.below hb') (hat'.below hb'))
        clear hi hi' hat hat' h4 h4'
        generalize l.getD k dIt = x at d0 d1 d2 d3 K HE HN
        generalize l'.getD k dIt = y at e0 e1 e2 e3 K HE HN
        have HB := Lib.hid hb
        clear hb
        obtain ⟨xd, xt, xs, xn, xa⟩ := x
        obtain ⟨yd, yt, ys, yn, ya⟩ := y
        dsimp only at d0 d1 d2 d3 e0 e1 e2 e3 K
        by_cases hne : (⟨xd, xt, xs, xn, xa⟩ : It) = ⟨yd, yt, ys, yn, ya⟩
        · have HE2 := Lib.hid (HE.out hne)
          have K2 := Lib.hid (K.out true (iff_of_true rfl hne))
          clear HE HN K hne
          go_wp2_with (go_at_call 48; refine (K2.out _ (below2 _ _ _)).mono ?_; rintro e w2 ⟨rfl, hb2⟩)
          go_roundw
          case rel => exact ⟨k + 1, by omega, by go_num, HE2.out, below_then HB.out (below_then (below2 _ _ _) hb2)⟩
          case measure => simp [intOf]; omega
        · have HF := HN.out hne
          subst HF
          have K2 := Lib.hid (K.out false (iff_of_false (by decide) hne))
          clear HE HN K hne
          go_wp2_with (go_at_call 48; refine (K2.out _ (below2 _ _ _)).mono ?_; rintro e w2 ⟨rfl, hb2⟩)
          go_ret
          exact ⟨rfl, below_then HB.out (below_then (below2 _ _ _) hb2)⟩
      · obtain rfl : k = n := by omega
        have HF : bb = true := HBB.out.2 (by
          have := HT.out
          rw [List.take_of_length_le (by have := HL.out; omega), List.take_of_length_le (by have := HL'.out; omega)] at this
          exact this)
        subst HF
        go_wp2
        go_ret
        exact ⟨rfl, hb⟩
  · have HF : bb = false := by
      rw [Bool.eq_false_iff]
      exact fun hb => hnn (by rw [← HL.out, ← HL'.out, HBB.out.1 hb])
    subst HF
    have q1 : ((n : Int) != (n' : Int)) = true := by rw [bne_iff_ne]; omega
    have q2 : ((n : Int) == (n' : Int)) = false := by rw [beq_eq_false_iff_ne]; omega
    clear hnn
    go_enter Try.func47, Try.ntmps47
    go_wp2
    go_ret
    exact ⟨rfl, Below.refl _ _⟩

theorem implSameTrees_any (a a' : Option Addr) (n n' c c' : Nat) (l l' : List It) (w : World) (bb : Bool) (hbb : bb = true ↔ l = l') (h : ItsAt w a n c l) (h' : ItsAt w a' n' c' l') :
    Calls Try.prog 35 #[.slice a n c, .slice a' n' c'] w fun e w' => e = .returned (.bool bb) ∧ Below w.heap.size w w' := by
  have K := Lib.hid (fun W (hb : Below w.heap.size w W) => equalFunc_any a a' n n' c c' l l' W bb hbb (h.below hb) (h'.below hb))
  clear h h' hbb
  go_enter Try.func35, Try.ntmps35
  go_wp2_with fail
  refine (K.out _ (Below.refl _ _)).mono ?_
  rintro e w1 ⟨rfl, hb⟩
  go_wp2
  go_ret
  exact ⟨rfl, hb⟩
end Go.Proofs.Ytpafknmfacgccaa
