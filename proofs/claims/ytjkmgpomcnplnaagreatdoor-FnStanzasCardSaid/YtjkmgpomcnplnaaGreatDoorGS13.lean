/- the methods fault; impl.ItemFault. -/
import Derived.Test.YtjkmgpomcnplnaaGreatDoorGS12
import Derived.IntWalk
import Derived.Test.YtjkmgpomcnplnaaGreatDoorGS7
import Derived.Test.YtjkmgpomcnplnaaGreatDoorGS0
import Derived.Test.YtjkmgpomcnplnaaGreatDoorGS2
namespace Go.Proofs.YtjkmgpomcnplnaaGreatDoor
open Go.ChangeShapes Go.WideShapes Go.ChangeAt Go.RowKit
set_option linter.unusedVariables false
set_option maxRecDepth 100000 in
set_option maxHeartbeats 1600000 in
theorem faultText_any (b o : Nat) (x : It) (w : World) (hT : Tabs w) (h : ItAt w b o x) :
    Calls Tryz.prog 173 #[.agg #[.pointer (some ⟨b, o, none⟩)]] w fun e w' => e = .returned (.int .i64 (textCode x)) ∧ Below w.heap.size w w' := by
  have d1 := h.c1
  have d2 := h.c2
  obtain ⟨a4, n, c4, d4, hat⟩ := h.c4
  have HL := Lib.hid hat.len
  have hm := hat.max
  have KT := Lib.hid (fun W (hb : Below w.heap.size w W) => implTextFault_any x.text (by unfold maxLen; have := h.size.1; omega) W (tabs_kept hT hb))
  have hlt := h.lt
  obtain ⟨cd, hcd⟩ : ∃ cd, textCode x = cd := ⟨_, rfl⟩
  rw [hcd]
  unfold textCode at hcd
  clear h hT hat
  obtain ⟨d, s, t, u, l⟩ := x
  dsimp only at d1 d2 HL KT hcd
  by_cases hbad : t.toList.isEmpty = false ∨ 0 < l.length ∨ s.toList.isEmpty = true
  · rw [if_pos hbad] at hcd
    have HC := Lib.hid hcd
    clear hcd
    cases ht : t.toList.isEmpty
    · clear hbad
      go_enter Tryz.func173, Tryz.ntmps173
      go_wp2
      go_ret
      exact ⟨ret_i HC.out, below1 _ _⟩
    · by_cases hl : 0 < l.length
      · have hn0 : 0 < n := by have := HL.out; omega
        clear hbad hl
        go_enter Tryz.func173, Tryz.ntmps173
        go_wp2
        go_ret
        exact ⟨ret_i HC.out, below1 _ _⟩
      · have hs : s.toList.isEmpty = true := by
          rcases hbad with h | h | h
          · rw [ht] at h; cases h
          · exact absurd h hl
          · exact h
        obtain rfl : n = 0 := by have := HL.out; omega
        clear hbad hl
        go_enter Tryz.func173, Tryz.ntmps173
        go_wp2
        go_ret
        exact ⟨ret_i HC.out, below1 _ _⟩
  · rw [if_neg hbad] at hcd
    have ht : t.toList.isEmpty = true := by
      cases hq : t.toList.isEmpty
      · exact absurd (.inl hq) hbad
      · rfl
    obtain rfl : n = 0 := by
      have := HL.out
      rcases Nat.eq_zero_or_pos n with h | h
      · exact h
      · exact absurd (.inr (.inl (by omega))) hbad
    have hs : s.toList.isEmpty = false := by
      cases hq : s.toList.isEmpty
      · rfl
      · exact absurd (.inr (.inr hq)) hbad
    rw [hcd] at KT
    clear hcd hbad
    go_enter Tryz.func173, Tryz.ntmps173
    go_wp2_with fail
    refine (KT.out _ (below1 _ _)).mono ?_
    rintro e w1 ⟨rfl, hb1⟩
    go_wp2
    go_ret
    exact ⟨rfl, below_then (below1 _ _) hb1⟩
set_option maxRecDepth 100000 in
set_option maxHeartbeats 1600000 in
theorem faultElem_any (b o : Nat) (x : It) (w : World) (hT : Tabs w) (h : ItAt w b o x) :
    Calls Tryz.prog 175 #[.agg #[.pointer (some ⟨b, o, none⟩)]] w fun e w' => e = .returned (.int .i64 (elemCode x)) ∧ Below w.heap.size w w' := by
  have d1 := h.c1
  have d2 := h.c2
  have d3 := h.c3
  obtain ⟨a4, n, c4, d4, hat⟩ := h.c4
  have KS := Lib.hid (fun W (hb : Below w.heap.size w W) => implTextFault_any x.space (by unfold maxLen; have := h.size.2.1; omega) W (tabs_kept hT hb))
  have KN := Lib.hid (fun W => implIsName_any x.name (by unfold maxLen; have := h.size.2.2; omega) W)
  have KA := Lib.hid (fun W (hb : Below w.heap.size w W) => implAttrs_any a4 n c4 x.attrs W (tabs_kept hT hb) (hat.below hb))
  have hlt := h.lt
  obtain ⟨cd, hcd⟩ : ∃ cd, elemCode x = cd := ⟨_, rfl⟩
  rw [hcd]
  unfold elemCode at hcd
  clear h hT hat
  obtain ⟨d, s, t, u, l⟩ := x
  dsimp only at d1 d2 d3 KS KN KA hcd
  cases hs : s.toList.isEmpty
  · rw [hs, if_pos rfl] at hcd
    have HC := Lib.hid hcd
    clear hcd
    go_enter Tryz.func175, Tryz.ntmps175
    go_wp2
    go_ret
    exact ⟨ret_i HC.out, below1 _ _⟩
  rw [hs, if_neg (by decide)] at hcd
  cases hn : isNameL u.data.toList
  · rw [hn, if_pos rfl] at hcd
    have HC := Lib.hid hcd
    have HN := Lib.hid hn
    clear hcd
    go_enter Tryz.func175, Tryz.ntmps175
    go_wp2_with fail
    refine (KN.out _).mono ?_
    rintro e w1 ⟨rfl, hb1⟩
    go_wp2
    go_ret
    exact ⟨ret_i HC.out, below_then (below1 _ _) hb1⟩
  rw [hn, if_neg (by decide)] at hcd
  by_cases h0 : textFault t.data.toList = 0
  · rw [if_pos h0] at hcd
    rw [h0] at KS
    rw [hcd] at KA
    clear hcd h0
    go_enter Tryz.func175, Tryz.ntmps175
    go_wp2_with fail
    refine (KN.out _).mono ?_
    rintro e w1 ⟨rfl, hb1⟩
    obtain ⟨hc, hf⟩ := bcell hb1
    have hz := hb1.size
    simp at hz
    have HB1 := Lib.hid (below_then (below1 _ _) hb1)
    clear hb1
    go_wp2_with fail
    refine (KS.out _ HB1.out).mono ?_
    rintro e w2 ⟨rfl, hb2⟩
    obtain ⟨hc2, hf2⟩ := bcell hb2
    have hlt1 : b < w1.heap.size := by omega
    have hlt2 : w.heap.size < w1.heap.size := by omega
    have HB2 := Lib.hid (below_then HB1.out hb2)
    clear hb2
    go_wp2_with fail
    refine (KA.out _ HB2.out).mono ?_
    rintro e w3 ⟨rfl, hb3⟩
    go_wp2
    go_ret
    exact ⟨rfl, below_then HB2.out hb3⟩
  · rw [if_neg h0] at hcd
    rw [hcd] at KS h0
    have q1 : (cd != 0) = true := by simpa using h0
    have q2 : (cd == 0) = false := by simpa using h0
    clear hcd h0
    go_enter Tryz.func175, Tryz.ntmps175
    go_wp2_with fail
    refine (KN.out _).mono ?_
    rintro e w1 ⟨rfl, hb1⟩
    obtain ⟨hc, hf⟩ := bcell hb1
    have hz := hb1.size
    simp at hz
    have HB1 := Lib.hid (below_then (below1 _ _) hb1)
    clear hb1
    go_wp2_with fail
    refine (KS.out _ HB1.out).mono ?_
    rintro e w2 ⟨rfl, hb2⟩
    go_wp2
    go_ret
    exact ⟨rfl, below_then HB1.out hb2⟩
theorem methFaultT (a : Addr) (w : World) : (method 322 87 (.agg #[.pointer (some a)]) "loop.example/g00795/impl.fault").run Tryz.prog w = .ok (173, .agg #[.pointer (some a)]) w := by kernel_rfl
theorem methFaultE (a : Addr) (w : World) : (method 322 88 (.agg #[.pointer (some a)]) "loop.example/g00795/impl.fault").run Tryz.prog w = .ok (175, .agg #[.pointer (some a)]) w := by kernel_rfl
set_option maxRecDepth 100000 in
set_option maxHeartbeats 1600000 in
theorem implItemFault_any (x : It) (a : Option Addr) (n c : Nat) (w : World) (hT : Tabs w) (hwf : -9223372036854775808 ≤ x.depth ∧ x.depth ≤ 9223372036854775807) (hsz : x.text.size ≤ 9223372036854775807 ∧ x.space.size ≤ 9223372036854775807 ∧ x.name.size ≤ 9223372036854775807) (h : AtsAt w a n c x.attrs) :
    Calls Tryz.prog 52 #[.agg #[.int .i64 x.depth, .string x.text, .string x.space, .string x.name, .slice a n c]] w fun e w' => e = .returned (.int .i64 (itemCode x)) ∧ Below w.heap.size w w' := by
  have HI := Lib.hid (show ItAt (w.alloc (.cells #[.int .i64 x.depth, .string x.text, .string x.space, .string x.name, .slice a n c] 54)) w.heap.size 0 x from
    ⟨by simp, hwf, hsz, by simp, by simp, by simp, by simp, a, n, c, by simp, h.below (below1 _ _)⟩)
  have HT := Lib.hid hT
  have HC1 : Hid (x.depth < 0 ∨ 6 < x.depth → itemCode x = 3) := Lib.hid fun e => by unfold itemCode; rw [if_pos e]
  have HC2 : Hid (¬ (x.depth < 0 ∨ 6 < x.depth) → x.name.toList.isEmpty = true → itemCode x = textCode x) := Lib.hid fun e e2 => by unfold itemCode; rw [if_neg e, if_pos e2]
  have HC3 : Hid (¬ (x.depth < 0 ∨ 6 < x.depth) → x.name.toList.isEmpty = false → itemCode x = elemCode x) := Lib.hid fun e e2 => by unfold itemCode; rw [if_neg e, e2, if_neg (by decide)]
  obtain ⟨cd, hcd⟩ : ∃ cd, itemCode x = cd := ⟨_, rfl⟩
  rw [hcd] at HC1 HC2 HC3 ⊢
  clear hcd h hT hwf hsz
  by_cases hd : x.depth < 0 ∨ 6 < x.depth
  · have HC := Lib.hid (HC1.out hd)
    clear HC1 HC2 HC3
    obtain ⟨d, s, t, u, l⟩ := x
    dsimp only at hd ⊢
    rcases hd with hd | hd
    all_goals
      go_enter Tryz.func52, Tryz.ntmps52
      go_wp2
      go_ret
      exact ⟨ret_i HC.out.symm, below1 _ _⟩
  · cases hu : x.name.toList.isEmpty
    · have HC := Lib.hid (HC3.out hd hu)
      have K1 := Lib.hid (partOf_elem w.heap.size 0 x _ HI.out hu)
      have K2 := Lib.hid (faultElem_any w.heap.size 0 x _ (tabs_kept HT.out (below1 _ _)) HI.out)
      rw [← HC.out] at K2
      clear HC1 HC2 HC3
      obtain ⟨d, s, t, u, l⟩ := x
      dsimp only at hd K1 K2 ⊢
      have h0 : 0 ≤ d := by omega
      have h6 : d ≤ 6 := by omega
      clear hd HC HI hu
      go_enter Tryz.func52, Tryz.ntmps52
      have hm := methFaultE
      go_wp2_with fail
      refine K1.out.mono ?_
      rintro e w1 ⟨rfl, rfl⟩
      go_wp2_with fail
      refine K2.out.mono ?_
      rintro e w2 ⟨rfl, hb2⟩
      go_wp2
      go_ret
      exact ⟨rfl, below_then (below1 _ _) hb2⟩
    · have HC := Lib.hid (HC2.out hd hu)
      have K1 := Lib.hid (partOf_text w.heap.size 0 x _ HI.out hu)
      have K2 := Lib.hid (faultText_any w.heap.size 0 x _ (tabs_kept HT.out (below1 _ _)) HI.out)
      rw [← HC.out] at K2
      clear HC1 HC2 HC3
      obtain ⟨d, s, t, u, l⟩ := x
      dsimp only at hd K1 K2 ⊢
      have h0 : 0 ≤ d := by omega
      have h6 : d ≤ 6 := by omega
      clear hd HC HI hu
      go_enter Tryz.func52, Tryz.ntmps52
      have hm := methFaultT
      go_wp2_with fail
      refine K1.out.mono ?_
      rintro e w1 ⟨rfl, rfl⟩
      go_wp2_with fail
      refine K2.out.mono ?_
      rintro e w2 ⟨rfl, hb2⟩
      go_wp2
      go_ret
      exact ⟨rfl, below_then (below1 _ _) hb2⟩
theorem isText_yes (a : Addr) (w : World) : (Instr.typeAssert (.iface 87 (.agg #[.pointer (some a)])) 59 87 true).run Tryz.prog w = .ok (.tuple #[.agg #[.pointer (some a)], .bool true]) w := by kernel_rfl
theorem isText_no (a : Addr) (w : World) : (Instr.typeAssert (.iface 88 (.agg #[.pointer (some a)])) 59 87 true).run Tryz.prog w = .ok (.tuple #[.agg #[.pointer none], .bool false]) w := by kernel_rfl
set_option maxRecDepth 100000 in
set_option maxHeartbeats 3200000 in
theorem mayFollow_text (b o b' o' : Nat) (p x : It) (w : World) (h : ItAt w b o p) (h' : ItAt w b' o' x) (hp : p.name.toList.isEmpty = true) :
    Calls Tryz.prog 88 #[.pointer (some ⟨b, o, none⟩), .pointer (some ⟨b', o', none⟩)] w fun e w' => e = .returned (.bool (decide (x.depth < p.depth) || ((x.depth == p.depth) && !x.name.toList.isEmpty))) ∧ ∃ n, w' = w.drewN n := by
  have K := Lib.hid (partOf_text b o p w h hp)
  have e0 := h.c0
  have d0 := h'.c0
  have d3 := h'.c3
  clear h h'
  obtain ⟨xd, xt, xs, xn, xa⟩ := x
  obtain ⟨pd, pt, ps, pn, pa⟩ := p
  dsimp only at hp K e0 d0 d3 ⊢
  have hm := isText_yes
  by_cases h1 : xd < pd
  · have g1 : decide (xd < pd) = true := by simpa using h1
    go_enter Tryz.func88, Tryz.ntmps88
    go_wp2_with fail
    refine K.out.mono ?_
    rintro e w1 ⟨rfl, rfl⟩
    go_wp2_with fail
    go_quiet (fail)
    go_wp2
    go_ret
    exact ⟨ret_bool (by rw [g1]; rfl), _, rfl⟩
  · have g1 : decide (xd < pd) = false := by simpa using h1
    by_cases h2 : xd = pd
    · subst h2
      have g2 : (xd == xd) = true := by simp
      go_enter Tryz.func88, Tryz.ntmps88
      go_wp2_with fail
      refine K.out.mono ?_
      rintro e w1 ⟨rfl, rfl⟩
      go_wp2_with fail
      go_quiet (fail)
      go_wp2
      go_ret
      exact ⟨ret_bool (by rw [g1, g2]; simp), _, rfl⟩
    · have g2 : (xd == pd) = false := by simpa using h2
      clear h2
      go_enter Tryz.func88, Tryz.ntmps88
      go_wp2_with fail
      refine K.out.mono ?_
      rintro e w1 ⟨rfl, rfl⟩
      go_wp2_with fail
      go_quiet (fail)
      go_wp2
      go_ret
      exact ⟨ret_bool (by rw [g1, g2]; rfl), _, rfl⟩
set_option maxRecDepth 100000 in
set_option maxHeartbeats 3200000 in
theorem mayFollow_elem (b o b' o' : Nat) (p x : It) (w : World) (h : ItAt w b o p) (h' : ItAt w b' o' x) (hp : p.name.toList.isEmpty = false) (hd : 0 ≤ p.depth ∧ p.depth ≤ 6) :
    Calls Tryz.prog 88 #[.pointer (some ⟨b, o, none⟩), .pointer (some ⟨b', o', none⟩)] w fun e w' => e = .returned (.bool (decide (x.depth ≤ p.depth + 1))) ∧ ∃ n, w' = w.drewN n := by
  have K := Lib.hid (partOf_elem b o p w h hp)
  have e0 := h.c0
  have d0 := h'.c0
  clear h h'
  obtain ⟨xd, xt, xs, xn, xa⟩ := x
  obtain ⟨pd, pt, ps, pn, pa⟩ := p
  dsimp only at hp K e0 d0 hd ⊢
  have hm := isText_no
  have hw1 : IntKind.i64.wrap (pd + 1) = pd + 1 := IntWalk.i64_in _ (by omega)
  go_enter Tryz.func88, Tryz.ntmps88
  go_wp2_with fail
  refine K.out.mono ?_
  rintro e w1 ⟨rfl, rfl⟩
  go_wp2_with fail
  go_quiet (fail)
  go_wp2
  go_ret
  exact ⟨rfl, _, rfl⟩
theorem mayFollow_any (b o b' o' : Nat) (p x : It) (w : World) (h : ItAt w b o p) (h' : ItAt w b' o' x) (hd : 0 ≤ p.depth ∧ p.depth ≤ 6) :
    Calls Tryz.prog 88 #[.pointer (some ⟨b, o, none⟩), .pointer (some ⟨b', o', none⟩)] w fun e w' => e = .returned (.bool (followB x.depth p.depth x.name.toList.isEmpty p.name.toList.isEmpty)) ∧ ∃ n, w' = w.drewN n := by
  cases hp : p.name.toList.isEmpty
  · exact mayFollow_elem b o b' o' p x w h h' hp hd
  · exact mayFollow_text b o b' o' p x w h h' hp
theorem follow_step (d pd : Int) (xe pe : Bool) : followB d pd xe pe = stepB d pd xe pe := by
  unfold followB stepB
  rw [Bool.eq_iff_iff]
  cases pe <;> cases xe <;> simp <;> omega
set_option maxRecDepth 100000 in
set_option maxHeartbeats 6400000 in
theorem implAreTrees_any (a : Option Addr) (n c : Nat) (l : List It) (w : World) (h20 : n ≤ 20) (hd : ∀ i, i < n → 0 ≤ (l.getD i dIt).depth ∧ (l.getD i dIt).depth ≤ 6) (h : ItsAt w a n c l) :
    Calls Tryz.prog 54 #[.slice a n c] w fun e w' => e = .returned (.bool (moreStands l)) ∧ ∃ n, w' = w.drewN n := by
  have HD := Lib.hid hd
  have hlen := h.len
  have HNO : Hid (∀ i, i < n → moreStand l i = false → moreStands l = false) := Lib.hid fun i hi e => moreStands_no (by omega) e
  have HYES : Hid ((∀ i, i < n → moreStand l i = true) → moreStands l = true) := Lib.hid fun g => moreStands_yes fun i hi => g i (by omega)
  have HROW := Lib.hid h.row
  clear h hd hlen
  generalize moreStands l = st at HNO HYES
  go_enter Tryz.func54, Tryz.ntmps54
  go_wp2
  go_loopw [7] (fun i wr => ∃ k : Nat, k ≤ n ∧ i = .int .i64 k ∧ (∀ j, j < k → moreStand l j = true) ∧ ∃ nd, wr = w.drewN nd) (fun i _ => n - (intOf i).toNat)
  case atStart => exact ⟨0, Nat.zero_le _, rfl, fun j hj => by omega, 0, rfl⟩
  case round =>
    obtain ⟨k, hk, rfl, hz, hw⟩ := hrel
    have HW := Lib.hid hw
    have HZ := Lib.hid hz
    clear hz hw
    by_cases hlt : k < n
    · obtain ⟨b, o, rfl, h4⟩ := HROW.out.resolve_left (by omega)
      have hbw : Below w.heap.size w wr := by obtain ⟨nd, rfl⟩ := HW.out; exact below_drewN (Below.refl _ _) nd
      have hi := (h4 k hlt).below hbw
      have d0 := hi.c0
      have d2 := hi.c2
      have d3 := hi.c3
      have HN2 : Hid (moreStand l k = false → st = false) := Lib.hid (HNO.out k hlt)
      have HY3 : Hid (moreStand l k = true → ∀ j, j < k + 1 → moreStand l j = true) := Lib.hid fun e j h2 => by
        rcases Nat.lt_or_ge j k with h | h
        · exact HZ.out j h
        · obtain rfl : j = k := by omega
          exact e
      have q8 : (k : Int) < (n : Int) := by omega
      by_cases hk0 : k = 0
      · have e0 : moreStand l k = headB true (l.getD k dIt).depth (l.getD k dIt).name.toList.isEmpty (csOf (l.getD k dIt)) := by subst hk0; exact moreStand_first l
        rw [e0] at HN2 HY3
        clear hi h4 e0 hbw
        subst hk0
        simp only [Nat.zero_mul, Nat.add_zero] at d0 d2 d3
        rw [show ((0 : Nat) : Int) = 0 from rfl] at q8 ⊢
        generalize l.getD 0 dIt = x at d0 d2 d3 HN2 HY3
        obtain ⟨xd, xt, xs, xn, xa⟩ := x
        unfold csOf at HN2 HY3
        dsimp only at d0 d2 d3 HN2 HY3
        obtain ⟨xe, hxe⟩ : ∃ xe, xn.toList.isEmpty = xe := ⟨_, rfl⟩
        obtain ⟨cs, hcs⟩ : ∃ cs, (xs.toList == csL) = cs := ⟨_, rfl⟩
        rw [hxe, hcs] at HN2 HY3
        unfold csL at hcs
        have hcs2 : (xs.toList = [106, 97, 98, 98, 101, 114, 58, 99, 108, 105, 101, 110, 116]) ↔ cs = true := by rw [← hcs, beq_iff_eq]
        cases hh : headB true xd xe cs
        · have HF := Lib.hid (HN2.out hh)
          rcases head_no hh with ⟨g0, rfl⟩ | ⟨g0, rfl, rfl⟩ | ⟨g0, _⟩
          all_goals
            have g1 : (xd != 0) = !(xd == 0) := rfl
            rw [g0] at g1
            clear HN2 HY3 hh
            go_wp2
            go_ret
            exact ⟨ret_bool HF.out.symm, drew_more HW.out 0⟩
        · have HF := Lib.hid (HY3.out hh)
          rcases head_yes hh with ⟨g0, rfl, rfl⟩ | ⟨g0, g1⟩
          · have g1 : (xd != 0) = !(xd == 0) := rfl
            rw [g0] at g1
            clear HN2 HY3 hh
            go_wp2
            go_roundw
            case rel => exact ⟨1, by omega, by go_num, HF.out, drew_more HW.out 0⟩
            case measure => simp [intOf]; omega
          · cases g1
      · have qz : ((k : Int) == 0) = false := by rw [beq_eq_false_iff_ne]; omega
        have hj := (h4 (k - 1) (by omega)).below hbw
        have hdx := HD.out k hlt
        have hdp := HD.out (k - 1) (by omega)
        have KF := Lib.hid (fun (m : Nat) => mayFollow_any b (o + (k - 1) * 5) b (o + k * 5) (l.getD (k - 1) dIt) (l.getD k dIt) (wr.drewN m) (hj.below (below_drewN (Below.refl _ _) m)) (hi.below (below_drewN (Below.refl _ _) m)) hdp)
        have q5 : (0 : Int) ≤ (k : Int) - 1 := by omega
        have q6 : (1 : Int) ≤ (k : Int) := by omega
        have q7 : (k : Int) - 1 < (n : Int) := by omega
        have q9 : (0 : Int) < (k : Int) := by omega
        rw [moreStand_later hk0] at HN2 HY3
        clear hi hj h4 hbw
        generalize l.getD k dIt = x at d0 d2 d3 hdx HN2 HY3 KF
        generalize l.getD (k - 1) dIt = p at hdp HN2 HY3 KF
        obtain ⟨xd, xt, xs, xn, xa⟩ := x
        obtain ⟨pd, pt, ps, pn, pa⟩ := p
        unfold csOf at HN2 HY3
        dsimp only at d0 d2 d3 hdx hdp HN2 HY3 KF
        obtain ⟨xe, hxe⟩ : ∃ xe, xn.toList.isEmpty = xe := ⟨_, rfl⟩
        obtain ⟨pe, hpe⟩ : ∃ pe, pn.toList.isEmpty = pe := ⟨_, rfl⟩
        obtain ⟨cs, hcs⟩ : ∃ cs, (xs.toList == csL) = cs := ⟨_, rfl⟩
        rw [hxe, hpe, hcs] at HN2 HY3
        have K := Lib.hid (KF.out 0)
        rw [hxe, hpe, World.drewN_zero] at K
        simp only [follow_step] at K
        clear KF
        unfold csL at hcs
        have hcs2 : (xs.toList = [106, 97, 98, 98, 101, 114, 58, 99, 108, 105, 101, 110, 116]) ↔ cs = true := by rw [← hcs, beq_iff_eq]
        generalize stepB xd pd xe pe = fb at K HN2 HY3
        cases hh : headB false xd xe cs
        · have HF := Lib.hid (HN2.out (by rw [hh]; rfl))
          rcases head_no hh with ⟨g0, rfl⟩ | ⟨g0, rfl, rfl⟩ | ⟨_, g1⟩
          · clear HN2 HY3 hh K
            go_wp2
            go_ret
            exact ⟨ret_bool HF.out.symm, drew_more HW.out 0⟩
          · clear HN2 HY3 hh K
            go_wp2
            go_ret
            exact ⟨ret_bool HF.out.symm, drew_more HW.out 0⟩
          · cases g1
        · cases fb
          · have HF := Lib.hid (HN2.out (by rw [hh]; rfl))
            rcases head_yes hh with ⟨g0, rfl, rfl⟩ | ⟨g0, _⟩
            all_goals
              clear HN2 HY3 hh
              go_wp2_with fail
              refine K.out.mono ?_
              rintro e w2 ⟨rfl, nd, rfl⟩
              go_wp2
              go_ret
              exact ⟨ret_bool HF.out.symm, drew_more HW.out _⟩
          · have HF := Lib.hid (HY3.out (by rw [hh]; rfl))
            rcases head_yes hh with ⟨g0, rfl, rfl⟩ | ⟨g0, _⟩
            all_goals
              clear HN2 HY3 hh
              go_wp2_with fail
              refine K.out.mono ?_
              rintro e w2 ⟨rfl, nd, rfl⟩
              go_wp2
              go_roundw
              case rel => exact ⟨k + 1, by omega, by go_num, HF.out, drew_more HW.out _⟩
              case measure => simp [intOf]; omega
    · have HF : st = true := HYES.out fun i h1 => HZ.out i (by omega)
      obtain rfl : k = n := by omega
      go_wp2
      go_ret
      exact ⟨ret_bool HF.symm, HW.out⟩
theorem isDeepest_any (x : It) (a : Option Addr) (n c : Nat) (w : World) :
    Calls Tryz.prog 53 #[.agg #[.int .i64 x.depth, .string x.text, .string x.space, .string x.name, .slice a n c]] w fun e w' => e = .returned (.bool (x.depth == 6)) ∧ Below w.heap.size w w' := by
  obtain ⟨xd, xt, xs, xn, xa⟩ := x
  dsimp only
  go_enter Tryz.func53, Tryz.ntmps53
  go_wp2
  go_ret
  exact ⟨rfl, below1 _ _⟩
set_option maxRecDepth 100000 in
set_option maxHeartbeats 3200000 in
theorem implMoreFault_any (a : Option Addr) (n c : Nat) (l : List It) (w : World) (hT : Tabs w) (h : ItsAt w a n c l) :
    Calls Tryz.prog 23 #[.slice a n c] w fun e w' => e = .returned (.int .i64 (moreCode l)) ∧ Below w.heap.size w w' := by
  have hm := h.max
  have HL := Lib.hid h.len
  have H := Lib.hid h
  have HT := Lib.hid hT
  clear hT
  by_cases hn : 20 < n
  · have HC := Lib.hid (moreCode_many (l := l) (by have := h.len; omega))
    clear h
    generalize moreCode l = cd at HC
    go_enter Tryz.func23, Tryz.ntmps23
    go_wp2
    go_ret
    exact ⟨ret_i HC.out.symm, Below.refl _ _⟩
  · have h20 : n ≤ 20 := by omega
    have HC1 : Hid (∀ k, k < n → (∀ j, j < k → moreAt (l.getD j dIt) = 0) → moreAt (l.getD k dIt) ≠ 0 → moreCode l = moreAt (l.getD k dIt)) := Lib.hid fun k hk h0 h1 => moreCode_at (by have := h.len; omega) (by have := h.len; omega) h0 h1
    have HC2 : Hid ((∀ j, j < n → moreAt (l.getD j dIt) = 0) → moreCode l = if moreStands l = true then 0 else 1) := Lib.hid fun h0 => moreCode_end (by have := h.len; omega) (fun j hj => h0 j (by have := h.len; omega))
    clear h hn
    generalize moreCode l = cd at HC1 HC2
    go_enter Tryz.func23, Tryz.ntmps23
    go_wp2
    go_loopw [11] (fun i wr => ∃ k : Nat, k ≤ n ∧ i = .int .i64 k ∧ (∀ j, j < k → moreAt (l.getD j dIt) = 0) ∧ Below w.heap.size w wr) (fun i _ => n - (intOf i).toNat)
    case atStart => exact ⟨0, Nat.zero_le _, rfl, fun j hj => by omega, Below.refl _ _⟩
    case round =>
      obtain ⟨k, hk, rfl, hz, hb⟩ := hrel
      have HK := Lib.hid hz
      clear hz
      by_cases hlt : k < n
      · obtain ⟨b, o, rfl, h4⟩ := H.out.row.resolve_left (by omega)
        have hi := (h4 k hlt).below hb
        have hlt4 := hi.lt
        have d0 := hi.c0
        have d1 := hi.c1
        have d2 := hi.c2
        have d3 := hi.c3
        obtain ⟨a4, n4, c4, d4, hat⟩ := hi.c4
        have k1 : (k : Int) < (n : Int) := by omega
        have K := Lib.hid (fun W (hb' : Below wr.heap.size wr W) => implItemFault_any (l.getD k dIt) a4 n4 c4 W (tabs_kept HT.out (below_then hb hb')) hi.wf hi.size (hat.below hb'))
        have KD := Lib.hid (fun W => isDeepest_any (l.getD k dIt) a4 n4 c4 W)
        have HY : Hid (moreAt (l.getD k dIt) ≠ 0 → cd = moreAt (l.getD k dIt)) := Lib.hid (HC1.out k hlt HK.out)
        have HK2 : Hid (moreAt (l.getD k dIt) = 0 → ∀ j, j < k + 1 → moreAt (l.getD j dIt) = 0) := Lib.hid fun hx j hj => by
          rcases Nat.lt_or_ge j k with h | h
          · exact HK.out j h
          · obtain rfl : j = k := by omega
            exact hx
        have HB := Lib.hid hb
        clear hi hat hb h4
        unfold moreAt at HY HK2
        generalize itemCode (l.getD k dIt) = ic at K HY HK2
        generalize l.getD k dIt = x at d0 d1 d2 d3 K KD HY HK2
        obtain ⟨xd, xt, xs, xn, xa⟩ := x
        dsimp only at d0 d1 d2 d3 K KD HY HK2
        by_cases h0 : ic = 0
        · subst h0
          simp only [ne_eq, not_true_eq_false, if_false] at HY HK2
          have HY2 : Hid ((xd == 6) = true → cd = 3) := Lib.hid fun h6 => HY.out (by rw [if_pos (beq_iff_eq.1 h6)]; decide) |>.trans (by rw [if_pos (beq_iff_eq.1 h6)])
          have HK3 : Hid ((xd == 6) = false → ∀ j, j < k + 1 → moreAt (l.getD j dIt) = 0) := Lib.hid fun h6 => HK2.out (by rw [if_neg (by intro e; rw [e] at h6; simp at h6)])
          generalize (xd == 6) = b6 at KD HY2 HK3
          clear HK2 HY
          go_wp2_with fail
          refine (K.out _ (below1 _ _)).mono ?_
          rintro e w2 ⟨rfl, hb2⟩
          obtain ⟨hc, hf⟩ := bcell hb2
          have e0 : w2.cell? ⟨wr.heap.size, 0, none⟩ = some (.int .i64 xd) := by rw [hc _ _ (by simp)]; simp
          have e1 : w2.cell? ⟨wr.heap.size, 1, none⟩ = some (.string xt) := by rw [hc _ _ (by simp)]; simp
          have e2 : w2.cell? ⟨wr.heap.size, 2, none⟩ = some (.string xs) := by rw [hc _ _ (by simp)]; simp
          have e3 : w2.cell? ⟨wr.heap.size, 3, none⟩ = some (.string xn) := by rw [hc _ _ (by simp)]; simp
          have e4 : w2.cell? ⟨wr.heap.size, 4, none⟩ = some (.slice a4 n4 c4) := by rw [hc _ _ (by simp)]; simp
          have HB2 := Lib.hid (below_then HB.out (below_then (below1 _ _) hb2))
          clear d0 d1 d2 d3 d4 hb2 hc hf
          go_wp2_with fail
          refine (KD.out _).mono ?_
          rintro e w3 ⟨rfl, hb3⟩
          have HB3 := Lib.hid (below_then HB2.out hb3)
          clear hb3
          cases b6
          · have HK4 := Lib.hid (HK3.out rfl)
            clear HK3 HY2
            go_wp2
            go_roundw
            case rel => exact ⟨k + 1, by omega, by go_num, HK4.out, HB3.out⟩
            case measure => simp [intOf]; omega
          · have HY3 := Lib.hid (HY2.out rfl)
            clear HK3 HY2
            go_wp2
            go_ret
            exact ⟨ret_i HY3.out.symm, HB3.out⟩
        · have HY2 := Lib.hid (HY.out (by rw [if_pos h0]; exact h0))
          rw [if_pos h0] at HY2
          have q1 : (ic != 0) = true := by simpa using h0
          have q2 : (ic == 0) = false := by simpa using h0
          clear HK2 HY h0
          go_wp2_with fail
          refine (K.out _ (below1 _ _)).mono ?_
          rintro e w2 ⟨rfl, hb2⟩
          go_wp2
          go_ret
          exact ⟨ret_i HY2.out.symm, below_then HB.out (below_then (below1 _ _) hb2)⟩
      · obtain rfl : k = n := by omega
        have hdp : ∀ i, i < k → 0 ≤ (l.getD i dIt).depth ∧ (l.getD i dIt).depth ≤ 6 := fun i hi => item_depth (by
          have h1 := HK.out i hi
          unfold moreAt at h1
          by_cases h2 : itemCode (l.getD i dIt) = 0
          · exact h2
          · rw [if_pos h2] at h1; exact h1)
        have K := Lib.hid (implAreTrees_any a k c l wr h20 hdp (H.out.below hb))
        have HC3 := Lib.hid (HC2.out HK.out)
        clear hdp
        generalize moreStands l = st at K HC3
        clear HC1 HC2
        cases st
        all_goals
          go_wp2_with fail
          refine K.out.mono ?_
          rintro e w2 ⟨rfl, nd, rfl⟩
          go_wp2
          go_ret
          exact ⟨ret_i HC3.out.symm, below_drewN hb nd⟩
def TxtRes (w : World) (c : Int) (s : ByteArray) (e : Ending) (w' : World) : Prop := e = .returned (.agg #[.int .i64 c, .string s]) ∧ Below w.heap.size w w'
def kindWs : List ByteArray := [⟨#[]⟩, ⟨#[117, 110, 97, 118, 97, 105, 108, 97, 98, 108, 101]⟩, ⟨#[115, 117, 98, 115, 99, 114, 105, 98, 101]⟩, ⟨#[115, 117, 98, 115, 99, 114, 105, 98, 101, 100]⟩, ⟨#[117, 110, 115, 117, 98, 115, 99, 114, 105, 98, 101]⟩, ⟨#[117, 110, 115, 117, 98, 115, 99, 114, 105, 98, 101, 100]⟩, ⟨#[112, 114, 111, 98, 101]⟩]
def kindW (k : Int) : ByteArray := kindWs.getD k.toNat ByteArray.empty
def showWs : List ByteArray := [⟨#[]⟩, ⟨#[97, 119, 97, 121]⟩, ⟨#[99, 104, 97, 116]⟩, ⟨#[100, 110, 100]⟩, ⟨#[120, 97]⟩]
def showW (k : Int) : ByteArray := showWs.getD k.toNat ByteArray.empty
theorem kinds_row {w w' : World} (hz : w.heap.size < w'.heap.size) (c0 : w'.cell? ⟨w.heap.size, 0, none⟩ = some (.string (kindWs.getD 0 ByteArray.empty))) (c1 : w'.cell? ⟨w.heap.size, 1, none⟩ = some (.string (kindWs.getD 1 ByteArray.empty))) (c2 : w'.cell? ⟨w.heap.size, 2, none⟩ = some (.string (kindWs.getD 2 ByteArray.empty))) (c3 : w'.cell? ⟨w.heap.size, 3, none⟩ = some (.string (kindWs.getD 3 ByteArray.empty)))
    (c4 : w'.cell? ⟨w.heap.size, 4, none⟩ = some (.string (kindWs.getD 4 ByteArray.empty))) (c5 : w'.cell? ⟨w.heap.size, 5, none⟩ = some (.string (kindWs.getD 5 ByteArray.empty))) (c6 : w'.cell? ⟨w.heap.size, 6, none⟩ = some (.string (kindWs.getD 6 ByteArray.empty))) : RowS w' (.slice (some ⟨w.heap.size, 0, none⟩) 7 7) kindWs := by
  refine .inr ⟨w.heap.size, 0, 7, rfl, by decide, by decide, hz, fun i hi => ?_⟩
  have h7 : i < 7 := hi
  rw [Nat.zero_add]
  match i, h7 with
  | 0, _ => exact c0
  | 1, _ => exact c1
  | 2, _ => exact c2
  | 3, _ => exact c3
  | 4, _ => exact c4
  | 5, _ => exact c5
  | 6, _ => exact c6
theorem shows_row {w w' : World} (hz : w.heap.size < w'.heap.size) (c0 : w'.cell? ⟨w.heap.size, 0, none⟩ = some (.string (showWs.getD 0 ByteArray.empty))) (c1 : w'.cell? ⟨w.heap.size, 1, none⟩ = some (.string (showWs.getD 1 ByteArray.empty))) (c2 : w'.cell? ⟨w.heap.size, 2, none⟩ = some (.string (showWs.getD 2 ByteArray.empty))) (c3 : w'.cell? ⟨w.heap.size, 3, none⟩ = some (.string (showWs.getD 3 ByteArray.empty)))
    (c4 : w'.cell? ⟨w.heap.size, 4, none⟩ = some (.string (showWs.getD 4 ByteArray.empty))) : RowS w' (.slice (some ⟨w.heap.size, 0, none⟩) 5 5) showWs := by
  refine .inr ⟨w.heap.size, 0, 5, rfl, by decide, by decide, hz, fun i hi => ?_⟩
  have h5 : i < 5 := hi
  rw [Nat.zero_add]
  match i, h5 with
  | 0, _ => exact c0
  | 1, _ => exact c1
  | 2, _ => exact c2
  | 3, _ => exact c3
  | 4, _ => exact c4
def kindC (k : Int) : Int := if inB k 0 6 then 0 else 3
def kindT (k : Int) : ByteArray := if inB k 0 6 then kindW k else ByteArray.empty
def showC (k : Int) : Int := if inB k 0 4 then 0 else 3
def showT (k : Int) : ByteArray := if inB k 0 4 then showW k else ByteArray.empty
theorem pKinds_any (w : World) : Calls Tryz.prog 47 #[] w fun e w' =>
    e = .returned (.slice (some ⟨w.heap.size, 0, none⟩) 7 7) ∧ w.heap.size < w'.heap.size ∧ Below w.heap.size w w' ∧ w'.cell? ⟨w.heap.size, 0, none⟩ = some (.string ⟨#[]⟩) ∧ w'.cell? ⟨w.heap.size, 1, none⟩ = some (.string ⟨#[117, 110, 97, 118, 97, 105, 108, 97, 98, 108, 101]⟩) ∧ w'.cell? ⟨w.heap.size, 2, none⟩ = some (.string ⟨#[115, 117, 98, 115, 99, 114, 105, 98, 101]⟩) ∧ w'.cell? ⟨w.heap.size, 3, none⟩ = some (.string ⟨#[115, 117, 98, 115, 99, 114, 105, 98, 101, 100]⟩) ∧ w'.cell? ⟨w.heap.size, 4, none⟩ = some (.string ⟨#[117, 110, 115, 117, 98, 115, 99, 114, 105, 98, 101]⟩) ∧ w'.cell? ⟨w.heap.size, 5, none⟩ = some (.string ⟨#[117, 110, 115, 117, 98, 115, 99, 114, 105, 98, 101, 100]⟩) ∧ w'.cell? ⟨w.heap.size, 6, none⟩ = some (.string ⟨#[112, 114, 111, 98, 101]⟩) := by
  go_enter Tryz.func47, Tryz.ntmps47
  go_wp2
  go_ret
  refine ⟨rfl, by simp, below1 _ _, ?_, ?_, ?_, ?_, ?_, ?_, ?_⟩ <;> simp
theorem pShows_any (w : World) : Calls Tryz.prog 50 #[] w fun e w' =>
    e = .returned (.slice (some ⟨w.heap.size, 0, none⟩) 5 5) ∧ w.heap.size < w'.heap.size ∧ Below w.heap.size w w' ∧ w'.cell? ⟨w.heap.size, 0, none⟩ = some (.string ⟨#[]⟩) ∧ w'.cell? ⟨w.heap.size, 1, none⟩ = some (.string ⟨#[97, 119, 97, 121]⟩) ∧ w'.cell? ⟨w.heap.size, 2, none⟩ = some (.string ⟨#[99, 104, 97, 116]⟩) ∧ w'.cell? ⟨w.heap.size, 3, none⟩ = some (.string ⟨#[100, 110, 100]⟩) ∧ w'.cell? ⟨w.heap.size, 4, none⟩ = some (.string ⟨#[120, 97]⟩) := by
  go_enter Tryz.func50, Tryz.ntmps50
  go_wp2
  go_ret
  refine ⟨rfl, by simp, below1 _ _, ?_, ?_, ?_, ?_, ?_⟩ <;> simp
theorem pKinds_row (w : World) : Calls Tryz.prog 47 #[] w fun e w' => e = .returned (.slice (some ⟨w.heap.size, 0, none⟩) 7 7) ∧ RowS w' (.slice (some ⟨w.heap.size, 0, none⟩) 7 7) kindWs ∧ Below w.heap.size w w' :=
  (pKinds_any w).mono fun e w' ⟨he, hz, hb, c0, c1, c2, c3, c4, c5, c6⟩ => ⟨he, kinds_row hz c0 c1 c2 c3 c4 c5 c6, hb⟩
theorem pShows_row (w : World) : Calls Tryz.prog 50 #[] w fun e w' => e = .returned (.slice (some ⟨w.heap.size, 0, none⟩) 5 5) ∧ RowS w' (.slice (some ⟨w.heap.size, 0, none⟩) 5 5) showWs ∧ Below w.heap.size w w' :=
  (pShows_any w).mono fun e w' ⟨he, hz, hb, c0, c1, c2, c3, c4⟩ => ⟨he, shows_row hz c0 c1 c2 c3 c4, hb⟩
theorem wordAt_in (b n cap k : Nat) (t : ByteArray) (w : World) (hk : k < n) (hm : n ≤ 100) (hc : w.cell? ⟨b, k, none⟩ = some (.string t)) :
    Calls Tryz.prog 46 #[.slice (some ⟨b, 0, none⟩) n cap, .int .i64 k] w (TxtRes w 0 t) := by
  have h1 : 0 ≤ (k : Int) := by omega
  have h2 : (k : Int) < (n : Int) := by omega
  have hb : b < w.heap.size := World.block_lt_of_cell? w _ hc
  go_enter Tryz.func46, Tryz.ntmps46
  go_wp2
  exact bodyPost_ret (v := .agg #[.int .i64 0, .string t]) (by simp [results, Tryz.results46, go_sem]) rfl ⟨rfl, below1 w _⟩
theorem wordAt_out (b n cap : Nat) (k : Int) (w : World) (hk : k < 0 ∨ (n : Int) ≤ k) (hm : n ≤ 100) :
    Calls Tryz.prog 46 #[.slice (some ⟨b, 0, none⟩) n cap, .int .i64 k] w (TxtRes w 3 ByteArray.empty) := by
  rcases hk with h | h
  · go_enter Tryz.func46, Tryz.ntmps46
    go_wp2
    exact bodyPost_ret (v := .agg #[.int .i64 3, .string _]) (by simp [results, Tryz.results46, go_sem]; rfl) rfl ⟨rfl, below1 w _⟩
  · have h0 : 0 ≤ k := by omega
    go_enter Tryz.func46, Tryz.ntmps46
    go_wp2
    exact bodyPost_ret (v := .agg #[.int .i64 3, .string _]) (by simp [results, Tryz.results46, go_sem]; rfl) rfl ⟨rfl, below1 w _⟩
theorem rowS_cell {w : World} {b : Nat} {n cap : Nat} {ts : List ByteArray} (h : RowS w (.slice (some ⟨b, 0, none⟩) n cap) ts) {k : Nat} (hk : k < ts.length) : w.cell? ⟨b, k, none⟩ = some (.string (ts.getD k ByteArray.empty)) := by
  rcases h with ⟨hv, _⟩ | ⟨b', o, cap', hv, _, _, _, hc⟩
  · cases hv
  · simp only [Value.slice.injEq, Option.some.injEq, Addr.mk.injEq] at hv
    obtain ⟨⟨rfl, rfl, _⟩, _, _⟩ := hv
    simpa using hc k hk
theorem kindAt_any (k : Int) (b : Nat) (W : World) (hW : RowS W (.slice (some ⟨b, 0, none⟩) 7 7) kindWs) : Calls Tryz.prog 46 #[.slice (some ⟨b, 0, none⟩) 7 7, .int .i64 k] W (TxtRes W (kindC k) (kindT k)) := by
  unfold kindC kindT
  cases h : inB k 0 6
  · have hk : k < 0 ∨ ((7 : Nat) : Int) ≤ k := by
      have : ¬ (0 ≤ k ∧ k ≤ 6) := by simpa [inB] using h
      omega
    exact wordAt_out b 7 7 k W hk (by decide)
  · have hk : 0 ≤ k ∧ k ≤ 6 := by simpa [inB] using h
    obtain ⟨m, rfl⟩ : ∃ m : Nat, k = (m : Int) := ⟨k.toNat, by omega⟩
    have hm : m < 7 := by omega
    have hc := rowS_cell hW (show m < kindWs.length from hm)
    have e : kindW (m : Int) = kindWs.getD m ByteArray.empty := rfl
    rw [if_pos rfl, if_pos rfl, e]
    exact wordAt_in b 7 7 m _ W hm (by decide) hc
set_option maxHeartbeats 800000 in
theorem implKindWord0 (k : Int) (w : World) (c : Int) (t : ByteArray) (K : Hid (∀ b W, RowS W (.slice (some ⟨b, 0, none⟩) 7 7) kindWs → Calls Tryz.prog 46 #[.slice (some ⟨b, 0, none⟩) 7 7, .int .i64 k] W (TxtRes W c t))) :
    Calls Tryz.prog 19 #[.int .i64 k] w (TxtRes w c t) := by
  unfold TxtRes at K ⊢
  go_enter Tryz.func19, Tryz.ntmps19
  go_wp2_with fail
  refine (pKinds_row _).mono ?_
  rintro e w1 ⟨rfl, hr, hb⟩
  rw [show ∀ o, (w.alloc o).heap.size = w.heap.size + 1 from fun o => by simp] at hr
  have HR := Lib.hid hr
  have B1 := Lib.hid hb
  clear hr hb
  go_wp2_with fail
  refine (K.out _ _ HR.out).mono ?_
  rintro e w2 ⟨rfl, hb2⟩
  have hb := below_then B1.out hb2
  obtain ⟨hc, hf⟩ := bcell hb
  have hz := hb.size
  simp at hz
  have HB := Lib.hid hb
  clear hb2 hb
  go_wp2
  exact bodyPost_ret (v := .agg #[.int .i64 c, .string t]) (by simp [results, Tryz.results19, go_sem, hc]) rfl ⟨rfl, (((below1 w _).trans (HB.out.mono (by simp))).setCell (by simp) _).setCell (by simp) _⟩
theorem implKindWord_any (k : Int) (w : World) : Calls Tryz.prog 19 #[.int .i64 k] w (TxtRes w (kindC k) (kindT k)) := by
  exact implKindWord0 k w (kindC k) (kindT k) (Lib.hid fun b W hW => kindAt_any k b W hW)
theorem showAt_any (k : Int) (b : Nat) (W : World) (hW : RowS W (.slice (some ⟨b, 0, none⟩) 5 5) showWs) : Calls Tryz.prog 46 #[.slice (some ⟨b, 0, none⟩) 5 5, .int .i64 k] W (TxtRes W (showC k) (showT k)) := by
  unfold showC showT
  cases h : inB k 0 4
  · have hk : k < 0 ∨ ((5 : Nat) : Int) ≤ k := by
      have : ¬ (0 ≤ k ∧ k ≤ 4) := by simpa [inB] using h
      omega
    exact wordAt_out b 5 5 k W hk (by decide)
  · have hk : 0 ≤ k ∧ k ≤ 4 := by simpa [inB] using h
    obtain ⟨m, rfl⟩ : ∃ m : Nat, k = (m : Int) := ⟨k.toNat, by omega⟩
    have hm : m < 5 := by omega
    have hc := rowS_cell hW (show m < showWs.length from hm)
    have e : showW (m : Int) = showWs.getD m ByteArray.empty := rfl
    rw [if_pos rfl, if_pos rfl, e]
    exact wordAt_in b 5 5 m _ W hm (by decide) hc
set_option maxHeartbeats 800000 in
theorem implShowWord0 (k : Int) (w : World) (c : Int) (t : ByteArray) (K : Hid (∀ b W, RowS W (.slice (some ⟨b, 0, none⟩) 5 5) showWs → Calls Tryz.prog 46 #[.slice (some ⟨b, 0, none⟩) 5 5, .int .i64 k] W (TxtRes W c t))) :
    Calls Tryz.prog 21 #[.int .i64 k] w (TxtRes w c t) := by
  unfold TxtRes at K ⊢
  go_enter Tryz.func21, Tryz.ntmps21
  go_wp2_with fail
  refine (pShows_row _).mono ?_
  rintro e w1 ⟨rfl, hr, hb⟩
  rw [show ∀ o, (w.alloc o).heap.size = w.heap.size + 1 from fun o => by simp] at hr
  have HR := Lib.hid hr
  have B1 := Lib.hid hb
  clear hr hb
  go_wp2_with fail
  refine (K.out _ _ HR.out).mono ?_
  rintro e w2 ⟨rfl, hb2⟩
  have hb := below_then B1.out hb2
  obtain ⟨hc, hf⟩ := bcell hb
  have hz := hb.size
  simp at hz
  have HB := Lib.hid hb
  clear hb2 hb
  go_wp2
  exact bodyPost_ret (v := .agg #[.int .i64 c, .string t]) (by simp [results, Tryz.results21, go_sem, hc]) rfl ⟨rfl, (((below1 w _).trans (HB.out.mono (by simp))).setCell (by simp) _).setCell (by simp) _⟩
theorem implShowWord_any (k : Int) (w : World) : Calls Tryz.prog 21 #[.int .i64 k] w (TxtRes w (showC k) (showT k)) := by
  exact implShowWord0 k w (showC k) (showT k) (Lib.hid fun b W hW => showAt_any k b W hW)
end Go.Proofs.YtjkmgpomcnplnaaGreatDoor
