/- spec.l4Same, spec.SameTrees. -/
import Derived.Test.YtcaknhoaoodbfaaGreatDoorGP22
namespace Go.Proofs.YtcaknhoaoodbfaaGreatDoor
open Go.ChangeShapes Go.WideShapes Go.ChangeAt Go.RowKit
set_option linter.unusedVariables false
theorem neqAttr (s t s' t' : ByteArray) (q1 q2 : Bool) (h1 : (s.toList == s'.toList) = q1) (h2 : (t.toList == t'.toList) = q2) (w : World) : (binOp .neq 65 (.agg #[.string s, .string t]) (.agg #[.string s', .string t'])).run Tryz.prog w = .ok (.bool (!(q1 && q2))) w := by
  have u4 := Tryz.underlying9
  have hS : Tryz.prog.underlying 65 = some (.struct (Tryz.prog.fieldsOf 65)) := by kernel_rfl
  rw [run_neq_struct, show (10000 : Nat) = 9999 + 1 from rfl, run_equalIn_agg w 9999 _ _ _ hS (by kernel_rfl)]
  simp only [Program.fieldsOf, Tryz.underlying65]
  cases q1 <;> cases q2 <;> go_simp
theorem take_snocD {l : List At} {k : Nat} (h : k < l.length) : l.take (k + 1) = l.take k ++ [l.getD k dAt] := by
  rw [List.take_succ_eq_append_getElem h, List.getD_eq_getElem?_getD, List.getElem?_eq_getElem h]; rfl
set_option maxRecDepth 100000 in
set_option maxHeartbeats 3200000 in
theorem l4Same_a (b o b' o' : Nat) (x y : It) (w : World) (bb : Bool) (hbb : bb = true ↔ x.attrs = y.attrs) (h : ItAt w b o x) (h' : ItAt w b' o' y) (hd : x.depth = y.depth) (ht : x.text = y.text) (hs : x.space = y.space) (hn : x.name = y.name) (hl : x.attrs.length = y.attrs.length) :
    Calls Tryz.prog 130 #[.pointer (some ⟨b, o, none⟩), .pointer (some ⟨b', o', none⟩)] w fun e w' => e = .returned (.bool bb) ∧ ∃ n, w' = w.drewN n := by
  have d0 := h.c0
  have e0 := h'.c0
  have d1 := h.c1
  have e1 := h'.c1
  have d2 := h.c2
  have e2 := h'.c2
  have d3 := h.c3
  have e3 := h'.c3
  obtain ⟨a4, n4, c4, d4, hat⟩ := h.c4
  obtain ⟨a5, n5, c5, e4, hat'⟩ := h'.c4
  obtain rfl : n4 = n5 := by rw [← hat.len, ← hat'.len]; exact hl
  have hm := hat.max
  have HR := Lib.hid hat.row
  have HR' := Lib.hid hat'.row
  have HL := Lib.hid hat.len
  have HL' := Lib.hid hat'.len
  obtain ⟨xd, xt, xs, xn, xa⟩ := x
  obtain ⟨yd, yt, ys, yn, ya⟩ := y
  dsimp only at hd ht hs hn hl d0 e0 d1 e1 d2 e2 d3 e3 hbb HR HR' HL HL'
  subst hd
  subst ht
  subst hs
  subst hn
  have HBB := Lib.hid hbb
  have q0 : (xd != xd) = false := by simp
  clear h h' hat hat' hl hbb
  go_enter Tryz.func130, Tryz.ntmps130
  go_wp2_with fail
  go_quiet (fail)
  go_wp2
  clear d0 e0 d1 e1 d2 e2 d3 e3 q0
  go_loopw [66] (fun i wr => ∃ k : Nat, k ≤ n4 ∧ i = .int .i64 k ∧ xa.take k = ya.take k ∧ ∃ n, wr = w.drewN n) (fun i _ => n4 - (intOf i).toNat)
  case atStart => exact ⟨0, Nat.zero_le _, rfl, rfl, _, rfl⟩
  case round =>
    obtain ⟨k, hk, rfl, ht, nd, rfl⟩ := hrel
    have HT := Lib.hid ht
    clear ht
    by_cases hlt : k < n4
    · rcases HR.out with e0 | ⟨b4, o4, rfl, h3, h4⟩
      · omega
      rcases HR'.out with e0 | ⟨b5, o5, rfl, h3', h4'⟩
      · omega
      have f0 := (h4 k hlt).1
      have f1 := (h4 k hlt).2
      have g0 := (h4' k hlt).1
      have g1 := (h4' k hlt).2
      clear h4 h4'
      have k1 : (k : Int) < (n4 : Int) := by omega
      have HE : Hid (xa.getD k dAt = ya.getD k dAt → xa.take (k + 1) = ya.take (k + 1)) := Lib.hid fun e => by
        rw [take_snocD (by have := HL.out; omega), take_snocD (l := ya) (by have := HL'.out; omega), HT.out, e]
      have HN : Hid (xa.getD k dAt ≠ ya.getD k dAt → bb = false) := Lib.hid fun e => by
        rw [Bool.eq_false_iff]
        intro hb
        exact e (by rw [HBB.out.1 hb])
      obtain ⟨p, hp⟩ : ∃ p, xa.getD k dAt = p := ⟨_, rfl⟩
      obtain ⟨q, hq⟩ : ∃ q, ya.getD k dAt = q := ⟨_, rfl⟩
      rw [hp] at f0 f1 HE HN
      rw [hq] at g0 g1 HE HN
      have HP := Lib.hid hp
      have HQ := Lib.hid hq
      clear hp hq
      obtain ⟨ps, pt⟩ := p
      obtain ⟨qs, qt⟩ := q
      dsimp only at f0 f1 g0 g1
      by_cases hne : ps = qs ∧ pt = qt
      · obtain ⟨rfl, rfl⟩ := hne
        have hfr := neqAttr ps pt ps pt true true (by simp) (by simp)
        go_wp2_with fail
        go_quiet (fail)
        go_wp2
        go_roundw
        case rel => exact ⟨k + 1, by omega, by go_num, HE.out trivial, _, rfl⟩
        case measure => simp [intOf]; omega
      · have hfr : ∀ w, (binOp .neq 65 (.agg #[.string ps, .string pt]) (.agg #[.string qs, .string qt])).run Tryz.prog w = .ok (.bool true) w := by
          intro W
          by_cases h1 : ps = qs
          · rw [neqAttr ps pt qs qt true false (by rw [h1]; simp) (toList_ne fun e => hne ⟨h1, e⟩)]; rfl
          · rw [neqAttr ps pt qs qt false _ (toList_ne h1) rfl]; rfl
        have HF := HN.out fun e => hne (by rw [At.mk.injEq] at e; exact e)
        subst HF
        clear hne HN HE
        go_wp2_with fail
        go_quiet (fail)
        go_wp2
        go_ret
        exact ⟨rfl, _, World.drewN_drewN _ _ _⟩
    · obtain rfl : k = n4 := by omega
      have HF : bb = true := HBB.out.2 (by
        have := HT.out
        rw [List.take_of_length_le (by have := HL.out; omega), List.take_of_length_le (by have := HL'.out; omega)] at this
        exact this)
      subst HF
      go_wp2
      go_ret
      exact ⟨rfl, _, rfl⟩
theorem l4Same_any (b o b' o' : Nat) (x y : It) (w : World) (bb : Bool) (hbb : bb = true ↔ x = y) (h : ItAt w b o x) (h' : ItAt w b' o' y) :
    Calls Tryz.prog 130 #[.pointer (some ⟨b, o, none⟩), .pointer (some ⟨b', o', none⟩)] w fun e w' => e = .returned (.bool bb) ∧ ∃ n, w' = w.drewN n := by
  have no : x ≠ y → bb = false := fun hne => by rw [Bool.eq_false_iff]; exact fun e => hne (hbb.1 e)
  by_cases hd : x.depth = y.depth
  · by_cases ht : x.text = y.text
    · by_cases hs : x.space = y.space
      · by_cases hn : x.name = y.name
        · by_cases hl : x.attrs.length = y.attrs.length
          · exact l4Same_a b o b' o' x y w bb ⟨fun e => by rw [hbb.1 e], fun e => hbb.2 (It.eq hd ht hs hn e)⟩ h h' hd ht hs hn hl
          · rw [no fun e => hl (by rw [e])]; exact l4Same_l b o b' o' x y w h h' hd ht hs hn hl
        · rw [no fun e => hn (by rw [e])]; exact l4Same_n b o b' o' x y w h h' hd ht hs hn
      · rw [no fun e => hs (by rw [e])]; exact l4Same_s b o b' o' x y w h h' hd ht hs
    · rw [no fun e => ht (by rw [e])]; exact l4Same_t b o b' o' x y w h h' hd ht
  · rw [no fun e => hd (by rw [e])]; exact l4Same_d b o b' o' x y w h h' hd
theorem take_snocI {l : List It} {k : Nat} (h : k < l.length) : l.take (k + 1) = l.take k ++ [l.getD k dIt] := by
  rw [List.take_succ_eq_append_getElem h, List.getD_eq_getElem?_getD, List.getElem?_eq_getElem h]; rfl
set_option maxRecDepth 100000 in
set_option maxHeartbeats 1600000 in
theorem specSameTrees_any (a a' : Option Addr) (n n' c c' : Nat) (l l' : List It) (w : World) (bb : Bool) (hbb : bb = true ↔ l = l') (h : ItsAt w a n c l) (h' : ItsAt w a' n' c' l') :
    Calls Tryz.prog 65 #[.slice a n c, .slice a' n' c'] w fun e w' => e = .returned (.bool bb) ∧ ∃ n, w' = w.drewN n := by
  have hm := h.max
  have hm' := h'.max
  have HR := Lib.hid h.row
  have HR' := Lib.hid h'.row
  have HL := Lib.hid h.len
  have HL' := Lib.hid h'.len
  have HBB := Lib.hid hbb
  clear h h' hbb
  by_cases hnn : n = n'
  · subst hnn
    go_enter Tryz.func65, Tryz.ntmps65
    go_wp2
    go_loopw [13] (fun i wr => ∃ k : Nat, k ≤ n ∧ i = .int .i64 k ∧ l.take k = l'.take k ∧ ∃ n, wr = w.drewN n) (fun i _ => n - (intOf i).toNat)
    case atStart => exact ⟨0, Nat.zero_le _, rfl, rfl, 0, rfl⟩
    case round =>
      obtain ⟨k, hk, rfl, ht, hw⟩ := hrel
      have HW := Lib.hid hw
      clear hw
      have HT := Lib.hid ht
      clear ht
      by_cases hlt : k < n
      · rcases HR.out with e0 | ⟨b, o, rfl, h4⟩
        · omega
        rcases HR'.out with e0 | ⟨b', o', rfl, h4'⟩
        · omega
        have hbw : Below w.heap.size w wr := by obtain ⟨nd, rfl⟩ := HW.out; exact below_drewN (Below.refl _ _) nd
        have hi := (h4 k hlt).below hbw
        have hi' := (h4' k hlt).below hbw
        clear hbw
        clear h4 h4'
        have k1 : (k : Int) < (n : Int) := by omega
        by_cases hne : l.getD k dIt = l'.getD k dIt
        · have HE : Hid (l.take (k + 1) = l'.take (k + 1)) := Lib.hid (by
            rw [take_snocI (by have := HL.out; omega), take_snocI (l := l') (by have := HL'.out; omega), HT.out, hne])
          have K := Lib.hid (fun (m : Nat) => l4Same_any b (o + k * 5) b' (o' + k * 5) (l.getD k dIt) (l'.getD k dIt) (wr.drewN m) true (iff_of_true rfl hne) (hi.below (below_drewN (Below.refl _ _) m)) (hi'.below (below_drewN (Below.refl _ _) m)))
          clear hne hi hi'
          go_wp2_with fail
          go_quiet ((go_at_call 130; exact Calls.quiet_of (K.out _)))
          go_wp2
          go_roundw
          case rel => exact ⟨k + 1, by omega, by go_num, HE.out, drew_more HW.out _⟩
          case measure => simp [intOf]; omega
        · have HF : bb = false := by
            rw [Bool.eq_false_iff]
            exact fun hb => hne (by rw [HBB.out.1 hb])
          subst HF
          have K := Lib.hid (fun (m : Nat) => l4Same_any b (o + k * 5) b' (o' + k * 5) (l.getD k dIt) (l'.getD k dIt) (wr.drewN m) false (iff_of_false (by decide) hne) (hi.below (below_drewN (Below.refl _ _) m)) (hi'.below (below_drewN (Below.refl _ _) m)))
          clear hne hi hi'
          go_wp2_with fail
          go_quiet ((go_at_call 130; exact Calls.quiet_of (K.out _)))
          go_wp2
          go_ret
          exact ⟨rfl, drew_more HW.out _⟩
      · obtain rfl : k = n := by omega
        have HF : bb = true := HBB.out.2 (by
          have := HT.out
          rw [List.take_of_length_le (by have := HL.out; omega), List.take_of_length_le (by have := HL'.out; omega)] at this
          exact this)
        subst HF
        go_wp2
        go_ret
        exact ⟨rfl, HW.out⟩
  · have HF : bb = false := by
      rw [Bool.eq_false_iff]
      exact fun hb => hnn (by rw [← HL.out, ← HL'.out, HBB.out.1 hb])
    subst HF
    have q1 : ((n : Int) != (n' : Int)) = true := by rw [bne_iff_ne]; omega
    have q2 : ((n : Int) == (n' : Int)) = false := by rw [beq_eq_false_iff_ne]; omega
    clear hnn
    go_enter Tryz.func65, Tryz.ntmps65
    go_wp2
    go_ret
    exact ⟨rfl, 0, rfl⟩
end Go.Proofs.YtcaknhoaoodbfaaGreatDoor
