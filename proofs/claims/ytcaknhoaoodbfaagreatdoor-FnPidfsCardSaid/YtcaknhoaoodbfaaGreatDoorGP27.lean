/- the methods fault; impl.ItemFault. -/
import Derived.Test.YtcaknhoaoodbfaaGreatDoorGP26
import Derived.IntWalk
namespace Go.Proofs.YtcaknhoaoodbfaaGreatDoor
open Go.ChangeShapes Go.WideShapes Go.ChangeAt Go.RowKit
set_option linter.unusedVariables false
set_option maxRecDepth 100000 in
set_option maxHeartbeats 1600000 in
theorem faultText_any (b o : Nat) (x : It) (w : World) (hT : Tabs w) (h : ItAt w b o x) :
    Calls Tryz.prog 281 #[.agg #[.pointer (some ⟨b, o, none⟩)]] w fun e w' => e = .returned (.int .i64 (textCode x)) ∧ Below w.heap.size w w' := by
  have d1 := h.c1
  have d2 := h.c2
  obtain ⟨a4, n, c4, d4, hat⟩ := h.c4
  have HL := Lib.hid hat.len
  have hm := hat.max
  have KT := Lib.hid (fun W (hb : Below w.heap.size w W) => implTextFault_any x.text (by unfold maxLen; have := h.size.1; omega) W (tabs_kept hT hb))
  have hlt := h.lt
  obtain ⟨cd, hcd⟩ : ∃ cd, textCode x = cd := ⟨_, rfl⟩
  rw [hcd]
  unfold textCode at hcd
  clear h hT hat
  obtain ⟨d, s, t, u, l⟩ := x
  dsimp only at d1 d2 HL KT hcd
  by_cases hbad : t.toList.isEmpty = false ∨ 0 < l.length ∨ s.toList.isEmpty = true
  · rw [if_pos hbad] at hcd
    have HC := Lib.hid hcd
    clear hcd
    cases ht : t.toList.isEmpty
    · clear hbad
      go_enter Tryz.func281, Tryz.ntmps281
      go_wp2
      go_ret
      exact ⟨ret_i HC.out, below1 _ _⟩
    · by_cases hl : 0 < l.length
      · have hn0 : 0 < n := by have := HL.out; omega
        clear hbad hl
        go_enter Tryz.func281, Tryz.ntmps281
        go_wp2
        go_ret
        exact ⟨ret_i HC.out, below1 _ _⟩
      · have hs : s.toList.isEmpty = true := by
          rcases hbad with h | h | h
          · rw [ht] at h; cases h
          · exact absurd h hl
          · exact h
        obtain rfl : n = 0 := by have := HL.out; omega
        clear hbad hl
        go_enter Tryz.func281, Tryz.ntmps281
        go_wp2
        go_ret
        exact ⟨ret_i HC.out, below1 _ _⟩
  · rw [if_neg hbad] at hcd
    have ht : t.toList.isEmpty = true := by
      cases hq : t.toList.isEmpty
      · exact absurd (.inl hq) hbad
      · rfl
    obtain rfl : n = 0 := by
      have := HL.out
      rcases Nat.eq_zero_or_pos n with h | h
      · exact h
      · exact absurd (.inr (.inl (by omega))) hbad
    have hs : s.toList.isEmpty = false := by
      cases hq : s.toList.isEmpty
      · rfl
      · exact absurd (.inr (.inr hq)) hbad
    rw [hcd] at KT
    clear hcd hbad
    go_enter Tryz.func281, Tryz.ntmps281
    go_wp2_with fail
    refine (KT.out _ (below1 _ _)).mono ?_
    rintro e w1 ⟨rfl, hb1⟩
    go_wp2
    go_ret
    exact ⟨rfl, below_then (below1 _ _) hb1⟩
set_option maxRecDepth 100000 in
set_option maxHeartbeats 1600000 in
theorem faultElem_any (b o : Nat) (x : It) (w : World) (hT : Tabs w) (h : ItAt w b o x) :
    Calls Tryz.prog 283 #[.agg #[.pointer (some ⟨b, o, none⟩)]] w fun e w' => e = .returned (.int .i64 (elemCode x)) ∧ Below w.heap.size w w' := by
  have d1 := h.c1
  have d2 := h.c2
  have d3 := h.c3
  obtain ⟨a4, n, c4, d4, hat⟩ := h.c4
  have KS := Lib.hid (fun W (hb : Below w.heap.size w W) => implTextFault_any x.space (by unfold maxLen; have := h.size.2.1; omega) W (tabs_kept hT hb))
  have KN := Lib.hid (fun W => implIsName_any x.name (by unfold maxLen; have := h.size.2.2; omega) W)
  have KA := Lib.hid (fun W (hb : Below w.heap.size w W) => implAttrs_any a4 n c4 x.attrs W (tabs_kept hT hb) (hat.below hb))
  have hlt := h.lt
  obtain ⟨cd, hcd⟩ : ∃ cd, elemCode x = cd := ⟨_, rfl⟩
  rw [hcd]
  unfold elemCode at hcd
  clear h hT hat
  obtain ⟨d, s, t, u, l⟩ := x
  dsimp only at d1 d2 d3 KS KN KA hcd
  cases hs : s.toList.isEmpty
  · rw [hs, if_pos rfl] at hcd
    have HC := Lib.hid hcd
    clear hcd
    go_enter Tryz.func283, Tryz.ntmps283
    go_wp2
    go_ret
    exact ⟨ret_i HC.out, below1 _ _⟩
  rw [hs, if_neg (by decide)] at hcd
  cases hn : isNameL u.data.toList
  · rw [hn, if_pos rfl] at hcd
    have HC := Lib.hid hcd
    have HN := Lib.hid hn
    clear hcd
    go_enter Tryz.func283, Tryz.ntmps283
    go_wp2_with fail
    refine (KN.out _).mono ?_
    rintro e w1 ⟨rfl, hb1⟩
    go_wp2
    go_ret
    exact ⟨ret_i HC.out, below_then (below1 _ _) hb1⟩
  rw [hn, if_neg (by decide)] at hcd
  by_cases h0 : textFault t.data.toList = 0
  · rw [if_pos h0] at hcd
    rw [h0] at KS
    rw [hcd] at KA
    clear hcd h0
    go_enter Tryz.func283, Tryz.ntmps283
    go_wp2_with fail
    refine (KN.out _).mono ?_
    rintro e w1 ⟨rfl, hb1⟩
    obtain ⟨hc, hf⟩ := bcell hb1
    have hz := hb1.size
    simp at hz
    have HB1 := Lib.hid (below_then (below1 _ _) hb1)
    clear hb1
    go_wp2_with fail
    refine (KS.out _ HB1.out).mono ?_
    rintro e w2 ⟨rfl, hb2⟩
    obtain ⟨hc2, hf2⟩ := bcell hb2
    have hlt1 : b < w1.heap.size := by omega
    have hlt2 : w.heap.size < w1.heap.size := by omega
    have HB2 := Lib.hid (below_then HB1.out hb2)
    clear hb2
    go_wp2_with fail
    refine (KA.out _ HB2.out).mono ?_
    rintro e w3 ⟨rfl, hb3⟩
    go_wp2
    go_ret
    exact ⟨rfl, below_then HB2.out hb3⟩
  · rw [if_neg h0] at hcd
    rw [hcd] at KS h0
    have q1 : (cd != 0) = true := by simpa using h0
    have q2 : (cd == 0) = false := by simpa using h0
    clear hcd h0
    go_enter Tryz.func283, Tryz.ntmps283
    go_wp2_with fail
    refine (KN.out _).mono ?_
    rintro e w1 ⟨rfl, hb1⟩
    obtain ⟨hc, hf⟩ := bcell hb1
    have hz := hb1.size
    simp at hz
    have HB1 := Lib.hid (below_then (below1 _ _) hb1)
    clear hb1
    go_wp2_with fail
    refine (KS.out _ HB1.out).mono ?_
    rintro e w2 ⟨rfl, hb2⟩
    go_wp2
    go_ret
    exact ⟨rfl, below_then HB1.out hb2⟩
theorem methFaultT (a : Addr) (w : World) : (method 407 128 (.agg #[.pointer (some a)]) "loop.example/g00795/impl.fault").run Tryz.prog w = .ok (281, .agg #[.pointer (some a)]) w := by kernel_rfl
theorem methFaultE (a : Addr) (w : World) : (method 407 129 (.agg #[.pointer (some a)]) "loop.example/g00795/impl.fault").run Tryz.prog w = .ok (283, .agg #[.pointer (some a)]) w := by kernel_rfl
set_option maxRecDepth 100000 in
set_option maxHeartbeats 1600000 in
theorem implItemFault_any (x : It) (a : Option Addr) (n c : Nat) (w : World) (hT : Tabs w) (hwf : -9223372036854775808 ≤ x.depth ∧ x.depth ≤ 9223372036854775807) (hsz : x.text.size ≤ 9223372036854775807 ∧ x.space.size ≤ 9223372036854775807 ∧ x.name.size ≤ 9223372036854775807) (h : AtsAt w a n c x.attrs) :
    Calls Tryz.prog 74 #[.agg #[.int .i64 x.depth, .string x.text, .string x.space, .string x.name, .slice a n c]] w fun e w' => e = .returned (.int .i64 (itemCode x)) ∧ Below w.heap.size w w' := by
  have HI := Lib.hid (show ItAt (w.alloc (.cells #[.int .i64 x.depth, .string x.text, .string x.space, .string x.name, .slice a n c] 67)) w.heap.size 0 x from
    ⟨by simp, hwf, hsz, by simp, by simp, by simp, by simp, a, n, c, by simp, h.below (below1 _ _)⟩)
  have HT := Lib.hid hT
  have HC1 : Hid (x.depth < 0 ∨ 6 < x.depth → itemCode x = 3) := Lib.hid fun e => by unfold itemCode; rw [if_pos e]
  have HC2 : Hid (¬ (x.depth < 0 ∨ 6 < x.depth) → x.name.toList.isEmpty = true → itemCode x = textCode x) := Lib.hid fun e e2 => by unfold itemCode; rw [if_neg e, if_pos e2]
  have HC3 : Hid (¬ (x.depth < 0 ∨ 6 < x.depth) → x.name.toList.isEmpty = false → itemCode x = elemCode x) := Lib.hid fun e e2 => by unfold itemCode; rw [if_neg e, e2, if_neg (by decide)]
  obtain ⟨cd, hcd⟩ : ∃ cd, itemCode x = cd := ⟨_, rfl⟩
  rw [hcd] at HC1 HC2 HC3 ⊢
  clear hcd h hT hwf hsz
  by_cases hd : x.depth < 0 ∨ 6 < x.depth
  · have HC := Lib.hid (HC1.out hd)
    clear HC1 HC2 HC3
    obtain ⟨d, s, t, u, l⟩ := x
    dsimp only at hd ⊢
    rcases hd with hd | hd
    all_goals
      go_enter Tryz.func74, Tryz.ntmps74
      go_wp2
      go_ret
      exact ⟨ret_i HC.out.symm, below1 _ _⟩
  · cases hu : x.name.toList.isEmpty
    · have HC := Lib.hid (HC3.out hd hu)
      have K1 := Lib.hid (partOf_elem w.heap.size 0 x _ HI.out hu)
      have K2 := Lib.hid (faultElem_any w.heap.size 0 x _ (tabs_kept HT.out (below1 _ _)) HI.out)
      rw [← HC.out] at K2
      clear HC1 HC2 HC3
      obtain ⟨d, s, t, u, l⟩ := x
      dsimp only at hd K1 K2 ⊢
      have h0 : 0 ≤ d := by omega
      have h6 : d ≤ 6 := by omega
      clear hd HC HI hu
      go_enter Tryz.func74, Tryz.ntmps74
      have hm := methFaultE
      go_wp2_with fail
      refine K1.out.mono ?_
      rintro e w1 ⟨rfl, rfl⟩
      go_wp2_with fail
      refine K2.out.mono ?_
      rintro e w2 ⟨rfl, hb2⟩
      go_wp2
      go_ret
      exact ⟨rfl, below_then (below1 _ _) hb2⟩
    · have HC := Lib.hid (HC2.out hd hu)
      have K1 := Lib.hid (partOf_text w.heap.size 0 x _ HI.out hu)
      have K2 := Lib.hid (faultText_any w.heap.size 0 x _ (tabs_kept HT.out (below1 _ _)) HI.out)
      rw [← HC.out] at K2
      clear HC1 HC2 HC3
      obtain ⟨d, s, t, u, l⟩ := x
      dsimp only at hd K1 K2 ⊢
      have h0 : 0 ≤ d := by omega
      have h6 : d ≤ 6 := by omega
      clear hd HC HI hu
      go_enter Tryz.func74, Tryz.ntmps74
      have hm := methFaultT
      go_wp2_with fail
      refine K1.out.mono ?_
      rintro e w1 ⟨rfl, rfl⟩
      go_wp2_with fail
      refine K2.out.mono ?_
      rintro e w2 ⟨rfl, hb2⟩
      go_wp2
      go_ret
      exact ⟨rfl, below_then (below1 _ _) hb2⟩
theorem isText_yes (a : Addr) (w : World) : (Instr.typeAssert (.iface 128 (.agg #[.pointer (some a)])) 72 128 true).run Tryz.prog w = .ok (.tuple #[.agg #[.pointer (some a)], .bool true]) w := by kernel_rfl
theorem isText_no (a : Addr) (w : World) : (Instr.typeAssert (.iface 129 (.agg #[.pointer (some a)])) 72 128 true).run Tryz.prog w = .ok (.tuple #[.agg #[.pointer none], .bool false]) w := by kernel_rfl
set_option maxRecDepth 100000 in
set_option maxHeartbeats 3200000 in
theorem mayFollow_text (b o b' o' : Nat) (p x : It) (w : World) (h : ItAt w b o p) (h' : ItAt w b' o' x) (hp : p.name.toList.isEmpty = true) :
    Calls Tryz.prog 137 #[.pointer (some ⟨b, o, none⟩), .pointer (some ⟨b', o', none⟩)] w fun e w' => e = .returned (.bool (decide (x.depth < p.depth) || ((x.depth == p.depth) && !x.name.toList.isEmpty))) ∧ ∃ n, w' = w.drewN n := by
  have K := Lib.hid (partOf_text b o p w h hp)
  have e0 := h.c0
  have d0 := h'.c0
  have d3 := h'.c3
  clear h h'
  obtain ⟨xd, xt, xs, xn, xa⟩ := x
  obtain ⟨pd, pt, ps, pn, pa⟩ := p
  dsimp only at hp K e0 d0 d3 ⊢
  have hm := isText_yes
  by_cases h1 : xd < pd
  · have g1 : decide (xd < pd) = true := by simpa using h1
    go_enter Tryz.func137, Tryz.ntmps137
    go_wp2_with fail
    refine K.out.mono ?_
    rintro e w1 ⟨rfl, rfl⟩
    go_wp2_with fail
    go_quiet (fail)
    go_wp2
    go_ret
    exact ⟨ret_bool (by rw [g1]; rfl), _, rfl⟩
  · have g1 : decide (xd < pd) = false := by simpa using h1
    by_cases h2 : xd = pd
    · subst h2
      have g2 : (xd == xd) = true := by simp
      go_enter Tryz.func137, Tryz.ntmps137
      go_wp2_with fail
      refine K.out.mono ?_
      rintro e w1 ⟨rfl, rfl⟩
      go_wp2_with fail
      go_quiet (fail)
      go_wp2
      go_ret
      exact ⟨ret_bool (by rw [g1, g2]; simp), _, rfl⟩
    · have g2 : (xd == pd) = false := by simpa using h2
      clear h2
      go_enter Tryz.func137, Tryz.ntmps137
      go_wp2_with fail
      refine K.out.mono ?_
      rintro e w1 ⟨rfl, rfl⟩
      go_wp2_with fail
      go_quiet (fail)
      go_wp2
      go_ret
      exact ⟨ret_bool (by rw [g1, g2]; rfl), _, rfl⟩
set_option maxRecDepth 100000 in
set_option maxHeartbeats 3200000 in
theorem mayFollow_elem (b o b' o' : Nat) (p x : It) (w : World) (h : ItAt w b o p) (h' : ItAt w b' o' x) (hp : p.name.toList.isEmpty = false) (hd : 0 ≤ p.depth ∧ p.depth ≤ 6) :
    Calls Tryz.prog 137 #[.pointer (some ⟨b, o, none⟩), .pointer (some ⟨b', o', none⟩)] w fun e w' => e = .returned (.bool (decide (x.depth ≤ p.depth + 1))) ∧ ∃ n, w' = w.drewN n := by
  have K := Lib.hid (partOf_elem b o p w h hp)
  have e0 := h.c0
  have d0 := h'.c0
  clear h h'
  obtain ⟨xd, xt, xs, xn, xa⟩ := x
  obtain ⟨pd, pt, ps, pn, pa⟩ := p
  dsimp only at hp K e0 d0 hd ⊢
  have hm := isText_no
  have hw1 : IntKind.i64.wrap (pd + 1) = pd + 1 := IntWalk.i64_in _ (by omega)
  go_enter Tryz.func137, Tryz.ntmps137
  go_wp2_with fail
  refine K.out.mono ?_
  rintro e w1 ⟨rfl, rfl⟩
  go_wp2_with fail
  go_quiet (fail)
  go_wp2
  go_ret
  exact ⟨rfl, _, rfl⟩
theorem mayFollow_any (b o b' o' : Nat) (p x : It) (w : World) (h : ItAt w b o p) (h' : ItAt w b' o' x) (hd : 0 ≤ p.depth ∧ p.depth ≤ 6) :
    Calls Tryz.prog 137 #[.pointer (some ⟨b, o, none⟩), .pointer (some ⟨b', o', none⟩)] w fun e w' => e = .returned (.bool (followB x.depth p.depth x.name.toList.isEmpty p.name.toList.isEmpty)) ∧ ∃ n, w' = w.drewN n := by
  cases hp : p.name.toList.isEmpty
  · exact mayFollow_elem b o b' o' p x w h h' hp hd
  · exact mayFollow_text b o b' o' p x w h h' hp
set_option maxRecDepth 100000 in
set_option maxHeartbeats 6400000 in
theorem implIsTree_any (a : Option Addr) (n c : Nat) (l : List It) (w : World) (h1 : 1 ≤ n) (h40 : n ≤ 40) (hd : ∀ i, i < n → 0 ≤ (l.getD i dIt).depth ∧ (l.getD i dIt).depth ≤ 6) (h : ItsAt w a n c l) :
    Calls Tryz.prog 82 #[.slice a n c] w fun e w' => e = .returned (.bool (stands l)) ∧ ∃ n, w' = w.drewN n := by
  have HL := Lib.hid h.len
  have HD := Lib.hid hd
  obtain ⟨b, o, rfl, h4⟩ : ∃ b o, a = some ⟨b, o, none⟩ ∧ ∀ i, i < n → ItAt w b (o + i * 5) (l.getD i dIt) := by
    rcases h.row with e | h
    · omega
    · exact h
  have H4 := Lib.hid h4
  have HNO : Hid (¬ ((l.getD 0 dIt).depth = 0 ∧ (l.getD 0 dIt).name.toList.isEmpty = false) → stands l = false) := Lib.hid stands_first
  have HNO2 : Hid (∀ i, 1 ≤ i → i < n → mayStand (l.getD (i - 1) dIt) (l.getD i dIt) = false → stands l = false) := Lib.hid fun i h1 h2 h3 => stands_no h1 (by have := h.len; omega) h3
  have HYES : Hid ((l.getD 0 dIt).depth = 0 → (l.getD 0 dIt).name.toList.isEmpty = false → (∀ i, 1 ≤ i → i < n → mayStand (l.getD (i - 1) dIt) (l.getD i dIt) = true) → stands l = true) := Lib.hid fun g0 g1 g2 => stands_yes g0 g1 fun i h1 h2 => g2 i h1 (by have := h.len; omega)
  clear h h4 hd
  generalize stands l = st at HNO HNO2 HYES
  have hi := H4.out 0 (by omega)
  have d0 : w.cell? ⟨b, o, none⟩ = some (.int .i64 (l.getD 0 dIt).depth) := by have := hi.c0; simpa using this
  have d3 : w.cell? ⟨b, o + 3, none⟩ = some (.string (l.getD 0 dIt).name) := by have := hi.c3; simpa using this
  clear hi
  have k0 : (0 : Int) < (n : Int) := by omega
  generalize l.getD 0 dIt = x at d0 d3 HNO HYES
  obtain ⟨xd, xt, xs, xn, xa⟩ := x
  dsimp only at d0 d3 HNO HYES
  by_cases hx0 : xd = 0
  · subst hx0
    cases hx3 : xn.toList.isEmpty
    · have HY2 := Lib.hid (HYES.out rfl hx3)
      clear HNO HYES
      go_enter Tryz.func82, Tryz.ntmps82
      go_wp2
      clear d0 d3 hx3
      go_loopw [3] (fun i wr => ∃ k : Nat, 1 ≤ k ∧ k ≤ n ∧ i = .int .i64 k ∧ (∀ j, 1 ≤ j → j < k → mayStand (l.getD (j - 1) dIt) (l.getD j dIt) = true) ∧ ∃ nd, wr = w.drewN nd) (fun i _ => n - (intOf i).toNat)
      case atStart => exact ⟨1, Nat.le_refl _, by omega, rfl, fun j h1 h2 => by omega, 0, rfl⟩
      case round =>
        obtain ⟨k, hk1, hk, rfl, hz, hw⟩ := hrel
        have HW := Lib.hid hw
        have HZ := Lib.hid hz
        clear hz hw
        by_cases hlt : k < n
        · have hbw : Below w.heap.size w wr := by obtain ⟨nd, rfl⟩ := HW.out; exact below_drewN (Below.refl _ _) nd
          have hi := (H4.out k hlt).below hbw
          have hj := (H4.out (k - 1) (by omega)).below hbw
          have d0 := hi.c0
          have d3 := hi.c3
          have e0 := hj.c0
          have e3 := hj.c3
          have hdx := HD.out k hlt
          have hdp := HD.out (k - 1) (by omega)
          have KF := Lib.hid (fun (m : Nat) => mayFollow_any b (o + (k - 1) * 5) b (o + k * 5) (l.getD (k - 1) dIt) (l.getD k dIt) (wr.drewN m) (hj.below (below_drewN (Below.refl _ _) m)) (hi.below (below_drewN (Below.refl _ _) m)) hdp)
          clear hi hj hbw
          have HN2 : Hid (mayStand (l.getD (k - 1) dIt) (l.getD k dIt) = false → st = false) := Lib.hid (HNO2.out k hk1 hlt)
          have HY3 : Hid (mayStand (l.getD (k - 1) dIt) (l.getD k dIt) = true → ∀ j, 1 ≤ j → j < k + 1 → mayStand (l.getD (j - 1) dIt) (l.getD j dIt) = true) := Lib.hid fun e j h1 h2 => by
            rcases Nat.lt_or_ge j k with h | h
            · exact HZ.out j h1 h
            · obtain rfl : j = k := by omega
              exact e
          have q5 : (0 : Int) ≤ (k : Int) - 1 := by omega
          have q6 : (1 : Int) ≤ (k : Int) := by omega
          have q7 : (k : Int) - 1 < (n : Int) := by omega
          have q8 : (k : Int) < (n : Int) := by omega
          generalize l.getD k dIt = x at d0 d3 hdx HN2 HY3 KF
          generalize l.getD (k - 1) dIt = p at e0 e3 hdp HN2 HY3 KF
          obtain ⟨xd, xt, xs, xn, xa⟩ := x
          obtain ⟨pd, pt, ps, pn, pa⟩ := p
          unfold mayStand at HN2 HY3
          dsimp only at d0 d3 e0 e3 hdx hdp HN2 HY3 KF
          obtain ⟨xe, hxe⟩ : ∃ xe, xn.toList.isEmpty = xe := ⟨_, rfl⟩
          obtain ⟨pe, hpe⟩ : ∃ pe, pn.toList.isEmpty = pe := ⟨_, rfl⟩
          rw [hxe, hpe] at HN2 HY3
          cases g0 : xd == 0
          · have K := Lib.hid (fun m => KF.out m)
            rw [hxe, hpe] at K
            rw [stand_follow g0] at HN2 HY3
            clear KF
            generalize followB xd pd xe pe = fb at K HN2 HY3
            cases fb
            · have HF := Lib.hid (HN2.out rfl)
              clear HN2 HY3
              go_wp2_with fail
              go_quiet ((go_at_call 137; exact Calls.quiet_of (K.out _)))
              go_wp2
              go_ret
              exact ⟨ret_bool HF.out.symm, drew_more HW.out _⟩
            · have HF := Lib.hid (HY3.out rfl)
              clear HN2 HY3
              go_wp2_with fail
              go_quiet ((go_at_call 137; exact Calls.quiet_of (K.out _)))
              go_wp2
              go_roundw
              case rel => exact ⟨k + 1, by omega, by omega, by go_num, HF.out, drew_more HW.out _⟩
              case measure => simp [intOf]; omega
          · have HF := Lib.hid (HN2.out (stand_zero g0))
            clear HN2 HY3 KF
            go_wp2_with fail
            go_quiet (fail)
            go_wp2
            go_ret
            exact ⟨ret_bool HF.out.symm, drew_more HW.out _⟩
        · have HF : st = true := HY2.out fun i h1 h2 => HZ.out i h1 (by omega)
          go_wp2
          go_ret
          exact ⟨ret_bool HF.symm, HW.out⟩
    · have HF := Lib.hid (HNO.out (fun e => by have := e.2; rw [hx3] at this; cases this))
      go_enter Tryz.func82, Tryz.ntmps82
      go_wp2
      go_ret
      exact ⟨ret_bool HF.out.symm, 0, rfl⟩
  · have HF := Lib.hid (HNO.out (fun e => hx0 e.1))
    have q1 : (xd != 0) = true := by simpa using hx0
    have q2 : (xd == 0) = false := by simpa using hx0
    clear hx0
    go_enter Tryz.func82, Tryz.ntmps82
    go_wp2
    go_ret
    exact ⟨ret_bool HF.out.symm, 0, rfl⟩
set_option maxRecDepth 100000 in
set_option maxHeartbeats 3200000 in
theorem implTreeFault_any (a : Option Addr) (n c : Nat) (l : List It) (w : World) (hT : Tabs w) (h : ItsAt w a n c l) :
    Calls Tryz.prog 29 #[.slice a n c] w fun e w' => e = .returned (.int .i64 (treeCode l)) ∧ Below w.heap.size w w' := by
  have hm := h.max
  have HL := Lib.hid h.len
  have H := Lib.hid h
  have HT := Lib.hid hT
  clear hT
  by_cases hn : n < 1 ∨ 40 < n
  · have HC := Lib.hid (treeCode_many (l := l) (by have := h.len; omega))
    clear h
    generalize treeCode l = cd at HC
    rcases hn with hn | hn
    · obtain rfl : n = 0 := by omega
      go_enter Tryz.func29, Tryz.ntmps29
      go_wp2
      go_ret
      exact ⟨ret_i HC.out.symm, Below.refl _ _⟩
    · go_enter Tryz.func29, Tryz.ntmps29
      go_wp2
      go_ret
      exact ⟨ret_i HC.out.symm, Below.refl _ _⟩
  · have h1 : 1 ≤ n := by omega
    have h40 : n ≤ 40 := by omega
    have HC1 : Hid (∀ k, k < n → (∀ j, j < k → itemCode (l.getD j dIt) = 0) → itemCode (l.getD k dIt) ≠ 0 → treeCode l = itemCode (l.getD k dIt)) := Lib.hid fun k hk h0 h1 => treeCode_at (by have := h.len; omega) (by have := h.len; omega) h0 h1
    have HC2 : Hid ((∀ j, j < n → itemCode (l.getD j dIt) = 0) → treeCode l = if stands l = true then 0 else 1) := Lib.hid fun h0 => treeCode_end (by have := h.len; omega) (fun j hj => h0 j (by have := h.len; omega))
    obtain ⟨b, o, rfl, h4⟩ : ∃ b o, a = some ⟨b, o, none⟩ ∧ ∀ i, i < n → ItAt w b (o + i * 5) (l.getD i dIt) := by
      rcases h.row with e | h
      · omega
      · exact h
    have H4 := Lib.hid h4
    clear h hn h4
    generalize treeCode l = cd at HC1 HC2
    go_enter Tryz.func29, Tryz.ntmps29
    go_wp2
    go_loopw [16] (fun i wr => ∃ k : Nat, k ≤ n ∧ i = .int .i64 k ∧ (∀ j, j < k → itemCode (l.getD j dIt) = 0) ∧ Below w.heap.size w wr) (fun i _ => n - (intOf i).toNat)
    case atStart => exact ⟨0, Nat.zero_le _, rfl, fun j hj => by omega, Below.refl _ _⟩
    case round =>
      obtain ⟨k, hk, rfl, hz, hb⟩ := hrel
      have HK := Lib.hid hz
      clear hz
      by_cases hlt : k < n
      · have hi := (H4.out k hlt).below hb
        have d0 := hi.c0
        have d1 := hi.c1
        have d2 := hi.c2
        have d3 := hi.c3
        obtain ⟨a4, n4, c4, d4, hat⟩ := hi.c4
        have k1 : (k : Int) < (n : Int) := by omega
        have K := Lib.hid (fun W (hb' : Below wr.heap.size wr W) => implItemFault_any (l.getD k dIt) a4 n4 c4 W (tabs_kept HT.out (below_then hb hb')) hi.wf hi.size (hat.below hb'))
        have HY : Hid (itemCode (l.getD k dIt) ≠ 0 → cd = itemCode (l.getD k dIt)) := Lib.hid (HC1.out k hlt HK.out)
        have HK2 : Hid (itemCode (l.getD k dIt) = 0 → ∀ j, j < k + 1 → itemCode (l.getD j dIt) = 0) := Lib.hid fun hx j hj => by
          rcases Nat.lt_or_ge j k with h | h
          · exact HK.out j h
          · obtain rfl : j = k := by omega
            exact hx
        have HB := Lib.hid hb
        have hltb := hi.lt
        clear hi hat hb
        generalize itemCode (l.getD k dIt) = ic at K HY HK2
        generalize l.getD k dIt = x at d0 d1 d2 d3 K
        obtain ⟨xd, xt, xs, xn, xa⟩ := x
        dsimp only at d0 d1 d2 d3 K
        by_cases h0 : ic = 0
        · subst h0
          have HK3 := Lib.hid (HK2.out rfl)
          clear HK2 HY
          go_wp2_with fail
          refine (K.out _ (below1 _ _)).mono ?_
          rintro e w2 ⟨rfl, hb2⟩
          go_wp2
          go_roundw
          case rel => exact ⟨k + 1, by omega, by go_num, HK3.out, below_then HB.out (below_then (below1 _ _) hb2)⟩
          case measure => simp [intOf]; omega
        · have HY2 := Lib.hid (HY.out h0)
          have q1 : (ic != 0) = true := by simpa using h0
          have q2 : (ic == 0) = false := by simpa using h0
          clear HK2 HY h0
          go_wp2_with fail
          refine (K.out _ (below1 _ _)).mono ?_
          rintro e w2 ⟨rfl, hb2⟩
          go_wp2
          go_ret
          exact ⟨ret_i HY2.out.symm, below_then HB.out (below_then (below1 _ _) hb2)⟩
      · obtain rfl : k = n := by omega
        have K := Lib.hid (implIsTree_any (some ⟨b, o, none⟩) k c l wr h1 h40 (fun i hi => item_depth (HK.out i hi)) (H.out.below hb))
        have HC3 := Lib.hid (HC2.out HK.out)
        generalize stands l = st at K HC3
        clear HC1 HC2
        cases st
        all_goals
          go_wp2_with fail
          refine K.out.mono ?_
          rintro e w2 ⟨rfl, nd, rfl⟩
          go_wp2
          go_ret
          exact ⟨ret_i HC3.out.symm, below_drewN hb nd⟩
def NodeAtRes (w : World) (bi oi : Nat) (l : List It) (k : Nat) (e : Ending) (w' : World) : Prop :=
  ∃ (B : Nat) (nb : Nat → Nat) (KA : Nat → Option Addr) (KN KC : Nat → Nat), e = .returned (.tuple #[ptrN (nb k), .int .i64 0]) ∧ w.heap.size ≤ B ∧ Nodes w' B bi oi l l.length nb KA KN KC (kidsUp l l.length) ∧ Below w.heap.size w w'
set_option maxRecDepth 100000 in
set_option maxHeartbeats 1600000 in
theorem nodeAt_any (bi oi n c k : Nat) (l : List It) (w : World) (hT : Tabs w) (h : ItsAt w (some ⟨bi, oi, none⟩) n c l) (hc : treeCode l = 0) (hk : k < n) :
    Calls Tryz.prog 189 #[.slice (some ⟨bi, oi, none⟩) n c, .int .i64 (k : Int)] w (NodeAtRes w bi oi l k) := by
  have hR := rises_of hc
  have hl := h.len
  have hn40 := hR.few
  have KT := Lib.hid (implTreeFault_any (some ⟨bi, oi, none⟩) n c l w hT h)
  rw [hc] at KT
  have KN : Hid (∀ W, Below w.heap.size w W → Calls Tryz.prog 124 #[.slice (some ⟨bi, oi, none⟩) n c] W (NodesRes W bi oi l)) := Lib.hid fun W hW => by
    rcases h.row with e | ⟨b, o, e, hi⟩
    · omega
    · cases e
      have := nodesOf_any bi oi c l W hR fun i hi2 => (hi i (by omega)).below hW
      rw [hl] at this
      exact this
  have HL := Lib.hid hl
  unfold NodeAtRes
  clear h hR hc hT hl
  have q0 : ¬ ((n : Int) ≤ (k : Int)) := by omega
  go_enter Tryz.func189, Tryz.ntmps189
  go_wp2_with fail
  refine KT.out.mono ?_
  rintro e w1 ⟨rfl, hb1⟩
  have HB1 := Lib.hid hb1
  clear hb1 KT
  go_wp2_with fail
  refine (KN.out _ HB1.out).mono ?_
  rintro e w2 ⟨rb, B, nb, KA, KN, KC, rfl, hrb, hB, hN, hat, hb2⟩
  have hn2 := Lib.hid hN
  have hs := HB1.out.size
  have HB2 := Lib.hid (HB1.out.trans (hb2.mono hs))
  have d0 := hat k (by have := HL.out; omega)
  have hl := HL.out
  unfold ptrN at d0
  clear hN hat hb2
  rw [hl]
  go_wp2
  go_ret2
  exact ⟨B, nb, KA, KN, KC, rfl, by omega, hn2.out, HB2.out⟩
end Go.Proofs.YtcaknhoaoodbfaaGreatDoor
