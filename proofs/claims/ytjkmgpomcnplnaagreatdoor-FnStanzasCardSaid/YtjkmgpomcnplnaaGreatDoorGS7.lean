/- spec.l4Attrs, spec.ItemFault. -/
import Derived.Test.YtjkmgpomcnplnaaGreatDoorGS6
import Derived.WalkLawsBesides
import Derived.IntWalk
import Derived.Test.YtjkmgpomcnplnaaGreatDoorGS1
import Derived.Test.YtjkmgpomcnplnaaGreatDoorGS5
import Derived.Deep.DeepCutAuto
import Derived.Test.YtjkmgpomcnplnaaGreatDoorGS2
namespace Go.Proofs.YtjkmgpomcnplnaaGreatDoor
open Go.ChangeShapes Go.WideShapes Go.ChangeAt Go.RowKit
set_option linter.unusedVariables false
set_option maxRecDepth 100000 in
set_option maxHeartbeats 1600000 in
theorem specAttrs_any (a : Option Addr) (n c : Nat) (l : List At) (w : World) (hn : SmallAts l) (h : AtsAt w a n c l) :
    Calls Tryz.prog 91 #[.slice a n c] w fun e w' => e = .returned (.int .i64 (attrsCode l)) ∧ Below w.heap.size w w' := by
  have hm := h.max
  have HR := Lib.hid h.row
  have HL := Lib.hid h.len
  have HN := Lib.hid hn.2
  have HZ := Lib.hid h.size
  by_cases h5 : 5 < n
  · have HC := Lib.hid (attrsCode_many (l := l) (by have := h.len; omega))
    clear h hn
    generalize attrsCode l = cd at HC
    go_enter Tryz.func91, Tryz.ntmps91
    go_wp2
    go_ret
    exact ⟨ret_i HC.out.symm, Below.refl _ _⟩
  · have HC1 : Hid (∀ k, k < n → (∀ j, j < k → atFault (l.getD j dAt) = 0) → atFault (l.getD k dAt) ≠ 0 → attrsCode l = atFault (l.getD k dAt)) := Lib.hid fun k hk h0 h1 => attrsCode_at (by have := h.len; omega) (by have := h.len; omega) h0 h1
    have HC2 : Hid ((∀ j, j < n → atFault (l.getD j dAt) = 0) → attrsCode l = if rises l = true then 0 else 6) := Lib.hid fun h0 => attrsCode_end (by have := h.len; omega) (fun j hj => h0 j (by have := h.len; omega))
    clear h hn
    generalize attrsCode l = cd at HC1 HC2
    go_enter Tryz.func91, Tryz.ntmps91
    go_wp2
    go_loopw [11] (fun i wr => ∃ k : Nat, k ≤ n ∧ i = .int .i64 k ∧ (∀ j, j < k → atFault (l.getD j dAt) = 0) ∧ Below w.heap.size w wr) (fun i _ => n - (intOf i).toNat)
    case atStart => exact ⟨0, Nat.zero_le _, rfl, fun j hj => by omega, Below.refl _ _⟩
    case round =>
      obtain ⟨k, hk, rfl, hz, hb⟩ := hrel
      have HK := Lib.hid hz
      clear hz
      by_cases hlt : k < n
      · rcases HR.out with e0 | ⟨b, o, rfl, h3, h4⟩
        · omega
        have d0 := (hb.cell (p := ⟨b, o + k * 2, none⟩) h3).trans (h4 k hlt).1
        have d1 := (hb.cell (p := ⟨b, o + k * 2 + 1, none⟩) h3).trans (h4 k hlt).2
        have HX : Hid (SmallAt (l.getD k dAt)) := Lib.hid (HN.out k (by have := HL.out; omega))
        have HY : Hid (atFault (l.getD k dAt) ≠ 0 → cd = atFault (l.getD k dAt)) := Lib.hid (HC1.out k hlt HK.out)
        have HK2 : Hid (atFault (l.getD k dAt) = 0 → ∀ j, j < k + 1 → atFault (l.getD j dAt) = 0) := Lib.hid fun hx j hj => by
          rcases Nat.lt_or_ge j k with h | h
          · exact HK.out j h
          · obtain rfl : j = k := by omega
            exact hx
        have hbb := h3
        clear h4 h3
        generalize l.getD k dAt = x at d0 d1 HX HY HK2
        obtain ⟨s, t⟩ := x
        dsimp only at d0 d1
        have hsm : s.size ≤ 1048576 := HX.out.1
        have htm : t.size ≤ 1048576 := HX.out.2
        have HB := Lib.hid hb
        clear hb
        cases hkey : isKeyL s
        · have HKEY := Lib.hid hkey
          go_wp2_with fail
          refine (specIsKey_any s (by unfold maxLen; omega) _).mono ?_
          rintro e w1 ⟨rfl, rfl⟩
          go_wp2
          go_ret
          have e5 : atFault ⟨s, t⟩ = 5 := by unfold atFault; rw [show (⟨s, t⟩ : At).name = s from rfl, HKEY.out]; rfl
          exact ⟨ret_i (by rw [HY.out (by rw [e5]; decide), e5]), HB.out⟩
        · have HKEY := Lib.hid hkey
          have ef : atFault ⟨s, t⟩ = textFault t.data.toList := by unfold atFault; rw [show (⟨s, t⟩ : At).name = s from rfl, hkey]; rfl
          rw [ef] at HY HK2
          have K := Lib.hid (fun W => specTextFault_any t htm W)
          generalize textFault t.data.toList = tf at HY HK2 K
          by_cases h0 : tf = 0
          · subst h0
            have HK3 := Lib.hid (HK2.out rfl)
            clear HK2 HY ef
            go_wp2_with fail
            refine (specIsKey_any s (by unfold maxLen; omega) _).mono ?_
            rintro e w1 ⟨rfl, rfl⟩
            go_wp2_with fail
            refine (K.out _).mono ?_
            rintro e w2 ⟨rfl, hb2⟩
            go_wp2
            go_roundw
            case rel => exact ⟨k + 1, by omega, by go_num, HK3.out, below_then HB.out hb2⟩
            case measure => simp [intOf]; omega
          · have HY2 := Lib.hid (HY.out h0)
            have q1 : (tf != 0) = true := by simpa using h0
            have q2 : (tf == 0) = false := by simpa using h0
            clear HK2 HY ef h0
            go_wp2_with fail
            refine (specIsKey_any s (by unfold maxLen; omega) _).mono ?_
            rintro e w1 ⟨rfl, rfl⟩
            go_wp2_with fail
            refine (K.out _).mono ?_
            rintro e w2 ⟨rfl, hb2⟩
            go_wp2
            go_ret
            exact ⟨ret_i HY2.out.symm, below_then HB.out hb2⟩
      · obtain rfl : k = n := by omega
        have HC3 := Lib.hid (HC2.out HK.out)
        clear HC1 HC2 HK
        go_wp2
        go_loopw [5] (fun i wx => ∃ k2 : Nat, 1 ≤ k2 ∧ (k2 ≤ k ∨ k2 = 1) ∧ i = .int .i64 k2 ∧ (∀ j, 1 ≤ j → j < k2 → lessAt (l.getD (j - 1) dAt) (l.getD j dAt) = true) ∧ Below w.heap.size w wx) (fun i _ => k - (intOf i).toNat)
        case atStart => exact ⟨1, Nat.le_refl _, .inr rfl, rfl, fun j h1 h2 => by omega, hb⟩
        case round =>
          obtain ⟨k2, hk1, hk2, rfl, hz2, hb2⟩ := hrel
          have HZ2 := Lib.hid hz2
          clear hz2
          by_cases hlt2 : k2 < k
          · rcases HR.out with e0 | ⟨b, o, rfl, h3, h4⟩
            · omega
            have d0 := (hb2.cell (p := ⟨b, o + k2 * 2, none⟩) h3).trans (h4 k2 hlt2).1
            have d1 := (hb2.cell (p := ⟨b, o + (k2 - 1) * 2, none⟩) h3).trans (h4 (k2 - 1) (by omega)).1
            have HN2 : Hid (lessAt (l.getD (k2 - 1) dAt) (l.getD k2 dAt) = false → cd = 6) := Lib.hid fun e => by
              rw [HC3.out, rises_no hk1 (by have := HL.out; omega) e]; rfl
            have HY2 : Hid (lessAt (l.getD (k2 - 1) dAt) (l.getD k2 dAt) = true → ∀ j, 1 ≤ j → j < k2 + 1 → lessAt (l.getD (j - 1) dAt) (l.getD j dAt) = true) := Lib.hid fun e j h1 h2 => by
              rcases Nat.lt_or_ge j k2 with h | h
              · exact HZ2.out j h1 h
              · obtain rfl : j = k2 := by omega
                exact e
            have q0 : (k2 : Int) < (k : Int) := by omega
            have q1 : (0 : Int) ≤ (k2 : Int) - 1 := by omega
            have q2 : (1 : Int) ≤ (k2 : Int) := by omega
            have q3 : (k2 : Int) - 1 < (k : Int) := by omega
            clear h4 h3
            generalize l.getD k2 dAt = x at d0 HN2 HY2
            generalize l.getD (k2 - 1) dAt = y at d1 HN2 HY2
            obtain ⟨s, t⟩ := x
            obtain ⟨s2, t2⟩ := y
            unfold lessAt at HN2 HY2
            dsimp only at d0 d1 HN2 HY2
            have HB2 := Lib.hid hb2
            clear hb2
            cases hless : Op.bytesLess s2.toList s.toList
            · have HF := Lib.hid (HN2.out hless)
              clear HN2 HY2
              rcases less_no hless with g1 | ⟨g1, g2⟩
              all_goals
                go_wp2_with fail
                go_quiet (fail)
                go_wp2
                go_ret
                exact ⟨ret_i HF.out.symm, below_drewN HB2.out _⟩
            · have HF := Lib.hid (HY2.out hless)
              clear HN2 HY2
              obtain ⟨g1, g2⟩ := less_yes hless
              go_wp2_with fail
              go_quiet (fail)
              go_wp2
              go_roundw
              case rel => exact ⟨k2 + 1, by omega, .inl (by omega), by go_num, HF.out, below_drewN HB2.out _⟩
              case measure => simp [intOf]; omega
          · have HF : Hid (cd = 0) := Lib.hid (by
              rw [HC3.out, rises_yes fun i h1 h2 => HZ2.out i h1 (by have := HL.out; omega)]; rfl)
            go_wp2
            go_ret
            exact ⟨ret_i HF.out.symm, hb2⟩
theorem inB_yes {d : Int} (h : ¬ (d < 0 ∨ 6 < d)) : inB d 0 6 = true := by unfold inB; rw [decide_eq_true_iff]; omega
theorem inB_no {d : Int} (h : d < 0 ∨ 6 < d) : inB d 0 6 = false := by unfold inB; rw [decide_eq_false_iff_not]; omega
set_option maxRecDepth 100000 in
set_option maxHeartbeats 1600000 in
theorem specItemFault_any (x : It) (a : Option Addr) (n c : Nat) (w : World) (hs : SmallIt x) (h : AtsAt w a n c x.attrs) :
    Calls Tryz.prog 55 #[.agg #[.int .i64 x.depth, .string x.text, .string x.space, .string x.name, .slice a n c]] w fun e w' => e = .returned (.int .i64 (itemCode x)) ∧ Below w.heap.size w w' := by
  have HA := Lib.hid h
  have hm := h.max
  have HL := Lib.hid h.len
  have KA := Lib.hid (fun W (hb : Below w.heap.size w W) => specAttrs_any a n c x.attrs W hs.2 (h.below hb))
  have KT := Lib.hid (fun W => specTextFault_any x.text hs.1.1 W)
  have KS := Lib.hid (fun W => specTextFault_any x.space hs.1.2.1 W)
  have KN := Lib.hid (fun W => specIsName_any x.name (by unfold maxLen; have := hs.1.2.2; omega) W)
  obtain ⟨cd, hcd⟩ : ∃ cd, itemCode x = cd := ⟨_, rfl⟩
  rw [hcd]
  unfold itemCode textCode elemCode at hcd
  clear h hs
  obtain ⟨d, s, t, u, l⟩ := x
  dsimp only at HA HL KA KT KS KN hcd ⊢
  by_cases hd : d < 0 ∨ 6 < d
  · rw [if_pos hd] at hcd
    have hin := inB_no hd
    have HC := Lib.hid hcd
    clear hcd hd
    go_enter Tryz.func55, Tryz.ntmps55
    go_wp2_with fail
    refine (l1In_any d 0 6 _).mono ?_
    rintro e w1 ⟨rfl, rfl⟩
    go_wp2
    go_ret
    exact ⟨ret_i HC.out, below1 _ _⟩
  rw [if_neg hd] at hcd
  have hin := inB_yes hd
  clear hd
  cases hu : u.toList.isEmpty
  · rw [hu, if_neg (by decide)] at hcd
    cases hs : s.toList.isEmpty
    · rw [hs, if_pos rfl] at hcd
      have HC := Lib.hid hcd
      clear hcd
      go_enter Tryz.func55, Tryz.ntmps55
      go_wp2_with fail
      refine (l1In_any d 0 6 _).mono ?_
      rintro e w1 ⟨rfl, rfl⟩
      go_wp2
      go_ret
      exact ⟨ret_i HC.out, below1 _ _⟩
    rw [hs, if_neg (by decide)] at hcd
    cases hn : isNameL u.data.toList
    · rw [hn, if_pos rfl] at hcd
      have HC := Lib.hid hcd
      have HN := Lib.hid hn
      clear hcd
      go_enter Tryz.func55, Tryz.ntmps55
      go_wp2_with fail
      refine (l1In_any d 0 6 _).mono ?_
      rintro e w1 ⟨rfl, rfl⟩
      go_wp2_with fail
      refine (KN.out _).mono ?_
      rintro e w1 ⟨rfl, rfl⟩
      go_wp2
      go_ret
      exact ⟨ret_i HC.out, below1 _ _⟩
    rw [hn, if_neg (by decide)] at hcd
    by_cases h0 : textFault t.data.toList = 0
    · rw [if_pos h0] at hcd
      rw [h0] at KS
      rw [hcd] at KA
      clear hcd h0
      go_enter Tryz.func55, Tryz.ntmps55
      go_wp2_with fail
      refine (l1In_any d 0 6 _).mono ?_
      rintro e w1 ⟨rfl, rfl⟩
      go_wp2_with fail
      refine (KN.out _).mono ?_
      rintro e w1 ⟨rfl, rfl⟩
      go_wp2_with fail
      refine (KS.out _).mono ?_
      rintro e w1 ⟨rfl, hb1⟩
      obtain ⟨hc, hf⟩ := bcell hb1
      have hz := hb1.size
      simp at hz
      have HB1 := Lib.hid hb1
      clear hb1
      go_wp2_with fail
      refine (KA.out _ (below_then (below1 _ _) HB1.out)).mono ?_
      rintro e w2 ⟨rfl, hb2⟩
      go_wp2
      go_ret
      exact ⟨rfl, below_then (below_then (below1 _ _) HB1.out) hb2⟩
    · rw [if_neg h0] at hcd
      rw [hcd] at KS h0
      have q1 : (cd != 0) = true := by simpa using h0
      have q2 : (cd == 0) = false := by simpa using h0
      clear hcd h0
      go_enter Tryz.func55, Tryz.ntmps55
      go_wp2_with fail
      refine (l1In_any d 0 6 _).mono ?_
      rintro e w1 ⟨rfl, rfl⟩
      go_wp2_with fail
      refine (KN.out _).mono ?_
      rintro e w1 ⟨rfl, rfl⟩
      go_wp2_with fail
      refine (KS.out _).mono ?_
      rintro e w1 ⟨rfl, hb1⟩
      go_wp2
      go_ret
      exact ⟨rfl, below_then (below1 _ _) hb1⟩
  · rw [hu, if_pos rfl] at hcd
    by_cases hbad : t.toList.isEmpty = false ∨ 0 < l.length ∨ s.toList.isEmpty = true
    · rw [if_pos hbad] at hcd
      have HC := Lib.hid hcd
      clear hcd
      cases ht : t.toList.isEmpty
      · clear hbad
        go_enter Tryz.func55, Tryz.ntmps55
        go_wp2_with fail
        refine (l1In_any d 0 6 _).mono ?_
        rintro e w1 ⟨rfl, rfl⟩
        go_wp2
        go_ret
        exact ⟨ret_i HC.out, below1 _ _⟩
      · by_cases hl : 0 < l.length
        · have hn0 : 0 < n := by have := HL.out; omega
          have q1 : ((n : Int) != 0) = true := by rw [bne_iff_ne]; omega
          have q2 : ((n : Int) == 0) = false := by rw [beq_eq_false_iff_ne]; omega
          clear hbad hl hn0
          go_enter Tryz.func55, Tryz.ntmps55
          go_wp2_with fail
          refine (l1In_any d 0 6 _).mono ?_
          rintro e w1 ⟨rfl, rfl⟩
          go_wp2
          go_ret
          exact ⟨ret_i HC.out, below1 _ _⟩
        · have hs : s.toList.isEmpty = true := by
            rcases hbad with h | h | h
            · rw [ht] at h; cases h
            · exact absurd h hl
            · exact h
          obtain rfl : n = 0 := by have := HL.out; omega
          clear hbad hl
          go_enter Tryz.func55, Tryz.ntmps55
          go_wp2_with fail
          refine (l1In_any d 0 6 _).mono ?_
          rintro e w1 ⟨rfl, rfl⟩
          go_wp2
          go_ret
          exact ⟨ret_i HC.out, below1 _ _⟩
    · rw [if_neg hbad] at hcd
      have ht : t.toList.isEmpty = true := by
        cases hq : t.toList.isEmpty
        · exact absurd (.inl hq) hbad
        · rfl
      obtain rfl : n = 0 := by
        have := HL.out
        rcases Nat.eq_zero_or_pos n with h | h
        · exact h
        · exact absurd (.inr (.inl (by omega))) hbad
      have hs : s.toList.isEmpty = false := by
        cases hq : s.toList.isEmpty
        · rfl
        · exact absurd (.inr (.inr hq)) hbad
      rw [hcd] at KT
      clear hcd hbad
      go_enter Tryz.func55, Tryz.ntmps55
      go_wp2_with fail
      refine (l1In_any d 0 6 _).mono ?_
      rintro e w1 ⟨rfl, rfl⟩
      go_wp2_with fail
      refine (KT.out _).mono ?_
      rintro e w1 ⟨rfl, hb1⟩
      go_wp2
      go_ret
      exact ⟨rfl, below_then (below1 _ _) hb1⟩
theorem moreStand_first (l : List It) : moreStand l 0 = headB true (l.getD 0 dIt).depth (l.getD 0 dIt).name.toList.isEmpty (csOf (l.getD 0 dIt)) := by simp [moreStand]
theorem moreStand_later {l : List It} {k : Nat} (h : k ≠ 0) : moreStand l k = (headB false (l.getD k dIt).depth (l.getD k dIt).name.toList.isEmpty (csOf (l.getD k dIt)) && stepB (l.getD k dIt).depth (l.getD (k - 1) dIt).depth (l.getD k dIt).name.toList.isEmpty (l.getD (k - 1) dIt).name.toList.isEmpty) := by
  unfold moreStand
  rw [decide_eq_false h]
  simp
set_option maxRecDepth 100000 in
set_option maxHeartbeats 6400000 in
theorem specMoreShape_any (a : Option Addr) (n c : Nat) (l : List It) (w : World) (h20 : n ≤ 20) (hd : ∀ i, i < n → 0 ≤ (l.getD i dIt).depth ∧ (l.getD i dIt).depth ≤ 6) (h : ItsAt w a n c l) :
    Calls Tryz.prog 56 #[.slice a n c] w fun e w' => e = .returned (.bool (moreStands l)) ∧ ∃ n, w' = w.drewN n := by
  have HD := Lib.hid hd
  have hlen := h.len
  have HNO : Hid (∀ i, i < n → moreStand l i = false → moreStands l = false) := Lib.hid fun i hi e => moreStands_no (by omega) e
  have HYES : Hid ((∀ i, i < n → moreStand l i = true) → moreStands l = true) := Lib.hid fun g => moreStands_yes fun i hi => g i (by omega)
  have HROW := Lib.hid h.row
  clear h hd hlen
  generalize moreStands l = st at HNO HYES
  go_enter Tryz.func56, Tryz.ntmps56
  go_wp2
  go_loopw [8] (fun i wr => ∃ k : Nat, k ≤ n ∧ i = .int .i64 k ∧ (∀ j, j < k → moreStand l j = true) ∧ ∃ nd, wr = w.drewN nd) (fun i _ => n - (intOf i).toNat)
  case atStart => exact ⟨0, Nat.zero_le _, rfl, fun j hj => by omega, 0, rfl⟩
  case round =>
    obtain ⟨k, hk, rfl, hz, hw⟩ := hrel
    have HW := Lib.hid hw
    have HZ := Lib.hid hz
    clear hz hw
    by_cases hlt : k < n
    · obtain ⟨b, o, rfl, h4⟩ := HROW.out.resolve_left (by omega)
      have hbw : Below w.heap.size w wr := by obtain ⟨nd, rfl⟩ := HW.out; exact below_drewN (Below.refl _ _) nd
      have hi := (h4 k hlt).below hbw
      have d0 := hi.c0
      have d2 := hi.c2
      have d3 := hi.c3
      have HN2 : Hid (moreStand l k = false → st = false) := Lib.hid (HNO.out k hlt)
      have HY3 : Hid (moreStand l k = true → ∀ j, j < k + 1 → moreStand l j = true) := Lib.hid fun e j h2 => by
        rcases Nat.lt_or_ge j k with h | h
        · exact HZ.out j h
        · obtain rfl : j = k := by omega
          exact e
      have q8 : (k : Int) < (n : Int) := by omega
      by_cases hk0 : k = 0
      · have e0 : moreStand l k = headB true (l.getD k dIt).depth (l.getD k dIt).name.toList.isEmpty (csOf (l.getD k dIt)) := by subst hk0; exact moreStand_first l
        rw [e0] at HN2 HY3
        clear hi h4 e0 hbw
        subst hk0
        simp only [Nat.zero_mul, Nat.add_zero] at d0 d2 d3
        rw [show ((0 : Nat) : Int) = 0 from rfl] at q8 ⊢
        generalize l.getD 0 dIt = x at d0 d2 d3 HN2 HY3
        obtain ⟨xd, xt, xs, xn, xa⟩ := x
        unfold csOf at HN2 HY3
        dsimp only at d0 d2 d3 HN2 HY3
        obtain ⟨xe, hxe⟩ : ∃ xe, xn.toList.isEmpty = xe := ⟨_, rfl⟩
        obtain ⟨cs, hcs⟩ : ∃ cs, (xs.toList == csL) = cs := ⟨_, rfl⟩
        rw [hxe, hcs] at HN2 HY3
        unfold csL at hcs
        have hcs2 : (xs.toList = [106, 97, 98, 98, 101, 114, 58, 99, 108, 105, 101, 110, 116]) ↔ cs = true := by rw [← hcs, beq_iff_eq]
        cases hh : headB true xd xe cs
        · have HF := Lib.hid (HN2.out hh)
          rcases head_no hh with ⟨g0, rfl⟩ | ⟨g0, rfl, rfl⟩ | ⟨g0, _⟩
          all_goals
            clear HN2 HY3 hh
            go_wp2
            go_ret
            exact ⟨ret_bool HF.out.symm, drew_more HW.out 0⟩
        · have HF := Lib.hid (HY3.out hh)
          rcases head_yes hh with ⟨g0, rfl, rfl⟩ | ⟨g0, g1⟩
          · clear HN2 HY3 hh
            go_wp2
            go_roundw
            case rel => exact ⟨1, by omega, by go_num, HF.out, drew_more HW.out 0⟩
            case measure => simp [intOf]; omega
          · cases g1
      · have qz : ((k : Int) == 0) = false := by rw [beq_eq_false_iff_ne]; omega
        have hj := (h4 (k - 1) (by omega)).below hbw
        have e0 := hj.c0
        have e3 := hj.c3
        have hdx := HD.out k hlt
        have hdp := HD.out (k - 1) (by omega)
        have q5 : (0 : Int) ≤ (k : Int) - 1 := by omega
        have q6 : (1 : Int) ≤ (k : Int) := by omega
        have q7 : (k : Int) - 1 < (n : Int) := by omega
        rw [moreStand_later hk0] at HN2 HY3
        clear hi hj h4 hbw
        generalize l.getD k dIt = x at d0 d2 d3 hdx HN2 HY3
        generalize l.getD (k - 1) dIt = p at e0 e3 hdp HN2 HY3
        obtain ⟨xd, xt, xs, xn, xa⟩ := x
        obtain ⟨pd, pt, ps, pn, pa⟩ := p
        unfold csOf at HN2 HY3
        dsimp only at d0 d2 d3 e0 e3 hdx hdp HN2 HY3
        have hw1 : IntKind.i64.wrap (pd + 1) = pd + 1 := IntWalk.i64_in _ (by omega)
        have hw2 : wrap64 (pd + 1) = pd + 1 := IntWalk.wrap64_in _ (by omega)
        obtain ⟨xe, hxe⟩ : ∃ xe, xn.toList.isEmpty = xe := ⟨_, rfl⟩
        obtain ⟨pe, hpe⟩ : ∃ pe, pn.toList.isEmpty = pe := ⟨_, rfl⟩
        obtain ⟨cs, hcs⟩ : ∃ cs, (xs.toList == csL) = cs := ⟨_, rfl⟩
        rw [hxe, hpe, hcs] at HN2 HY3
        unfold csL at hcs
        have hcs2 : (xs.toList = [106, 97, 98, 98, 101, 114, 58, 99, 108, 105, 101, 110, 116]) ↔ cs = true := by rw [← hcs, beq_iff_eq]
        cases hh : headB false xd xe cs
        · have HF := Lib.hid (HN2.out (by rw [hh]; rfl))
          rcases head_no hh with ⟨g0, rfl⟩ | ⟨g0, rfl, rfl⟩ | ⟨_, g1⟩
          · clear HN2 HY3 hh
            go_wp2
            go_ret
            exact ⟨ret_bool HF.out.symm, drew_more HW.out 0⟩
          · clear HN2 HY3 hh
            go_wp2
            go_ret
            exact ⟨ret_bool HF.out.symm, drew_more HW.out 0⟩
          · cases g1
        · cases hst : stepB xd pd xe pe
          · have HF := Lib.hid (HN2.out (by rw [hh, hst]; rfl))
            rcases head_yes hh with ⟨g0, rfl, rfl⟩ | ⟨g0, _⟩
            · rcases step_no hst with g3 | ⟨g3, g4, rfl⟩ | ⟨g3, g4, g5, rfl, g6⟩
              · clear HN2 HY3 hst hh
                go_wp2_with fail
                go_quiet (fail)
                go_wp2
                go_ret
                exact ⟨ret_bool HF.out.symm, drew_more HW.out _⟩
              · clear HN2 HY3 hst hh
                go_wp2_with fail
                go_quiet (fail)
                go_wp2
                go_ret
                exact ⟨ret_bool HF.out.symm, drew_more HW.out _⟩
              · cases g5
            · rcases step_no hst with g3 | ⟨g3, g4, rfl⟩ | ⟨g3, g4, rfl, rfl, g6⟩
              all_goals
                clear HN2 HY3 hst hh
                go_wp2_with fail
                go_quiet (fail)
                go_wp2
                go_ret
                exact ⟨ret_bool HF.out.symm, drew_more HW.out _⟩
          · have HF := Lib.hid (HY3.out (by rw [hh, hst]; rfl))
            rcases head_yes hh with ⟨g0, ge, rfl⟩ | ⟨g0, _⟩
            all_goals
              rcases step_yes hst with ⟨g3, g4, rfl, rfl⟩ | ⟨g3, g4, rfl, rfl⟩ | ⟨g3, g4, rfl⟩ | ⟨g3, g4, rfl, rfl⟩ | ⟨g3, g4, rfl, rfl, g6⟩
              all_goals
                first
                  | (exfalso; exact absurd ge (by decide))
                  | (clear HN2 HY3 hst hh
                     go_wp2_with fail
                     go_quiet (fail)
                     go_wp2
                     go_roundw
                     case rel => exact ⟨k + 1, by omega, by go_num, HF.out, drew_more HW.out _⟩
                     case measure => simp [intOf]; omega)
                  | fail
    · have HF : st = true := HYES.out fun i h1 => HZ.out i (by omega)
      obtain rfl : k = n := by omega
      go_wp2
      go_ret
      exact ⟨ret_bool HF.symm, HW.out⟩
set_option maxRecDepth 100000 in
set_option maxHeartbeats 3200000 in
theorem specMoreFault_any (a : Option Addr) (n c : Nat) (l : List It) (w : World) (hs : SmallIts l) (h : ItsAt w a n c l) :
    Calls Tryz.prog 24 #[.slice a n c] w fun e w' => e = .returned (.int .i64 (moreCode l)) ∧ Below w.heap.size w w' := by
  have hm := h.max
  have HL := Lib.hid h.len
  have H := Lib.hid h
  have HS := Lib.hid hs.2
  clear hs
  by_cases hn : 20 < n
  · have HC := Lib.hid (moreCode_many (l := l) (by have := h.len; omega))
    clear h
    generalize moreCode l = cd at HC
    go_enter Tryz.func24, Tryz.ntmps24
    go_wp2
    go_ret
    exact ⟨ret_i HC.out.symm, Below.refl _ _⟩
  · have h20 : n ≤ 20 := by omega
    have HC1 : Hid (∀ k, k < n → (∀ j, j < k → moreAt (l.getD j dIt) = 0) → moreAt (l.getD k dIt) ≠ 0 → moreCode l = moreAt (l.getD k dIt)) := Lib.hid fun k hk h0 h1 => moreCode_at (by have := h.len; omega) (by have := h.len; omega) h0 h1
    have HC2 : Hid ((∀ j, j < n → moreAt (l.getD j dIt) = 0) → moreCode l = if moreStands l = true then 0 else 1) := Lib.hid fun h0 => moreCode_end (by have := h.len; omega) (fun j hj => h0 j (by have := h.len; omega))
    clear h hn
    generalize moreCode l = cd at HC1 HC2
    go_enter Tryz.func24, Tryz.ntmps24
    go_wp2
    go_loopw [10] (fun i wr => ∃ k : Nat, k ≤ n ∧ i = .int .i64 k ∧ (∀ j, j < k → moreAt (l.getD j dIt) = 0) ∧ Below w.heap.size w wr) (fun i _ => n - (intOf i).toNat)
    case atStart => exact ⟨0, Nat.zero_le _, rfl, fun j hj => by omega, Below.refl _ _⟩
    case round =>
      obtain ⟨k, hk, rfl, hz, hb⟩ := hrel
      have HK := Lib.hid hz
      clear hz
      by_cases hlt : k < n
      · obtain ⟨b, o, rfl, h4⟩ := H.out.row.resolve_left (by omega)
        have hi := (h4 k hlt).below hb
        have hlt4 := hi.lt
        have d0 := hi.c0
        have d1 := hi.c1
        have d2 := hi.c2
        have d3 := hi.c3
        obtain ⟨a4, n4, c4, d4, hat⟩ := hi.c4
        have k1 : (k : Int) < (n : Int) := by omega
        have K := Lib.hid (fun W (hb' : Below wr.heap.size wr W) => specItemFault_any (l.getD k dIt) a4 n4 c4 W (HS.out k (by have := HL.out; omega)) (hat.below hb'))
        have HY : Hid (moreAt (l.getD k dIt) ≠ 0 → cd = moreAt (l.getD k dIt)) := Lib.hid (HC1.out k hlt HK.out)
        have HK2 : Hid (moreAt (l.getD k dIt) = 0 → ∀ j, j < k + 1 → moreAt (l.getD j dIt) = 0) := Lib.hid fun hx j hj => by
          rcases Nat.lt_or_ge j k with h | h
          · exact HK.out j h
          · obtain rfl : j = k := by omega
            exact hx
        have HB := Lib.hid hb
        clear hi hat hb h4
        unfold moreAt at HY HK2
        generalize itemCode (l.getD k dIt) = ic at K HY HK2
        generalize l.getD k dIt = x at d0 d1 d2 d3 K HY HK2
        obtain ⟨xd, xt, xs, xn, xa⟩ := x
        dsimp only at d0 d1 d2 d3 K HY HK2
        by_cases h0 : ic = 0
        · subst h0
          simp only [ne_eq, not_true_eq_false, if_false] at HY HK2
          by_cases h6 : xd = 6
          · have HY2 := Lib.hid (HY.out (by rw [if_pos h6]; decide))
            rw [if_pos h6] at HY2
            subst h6
            clear HK2 HY
            go_wp2_with fail
            refine (K.out _ (Below.refl _ _)).mono ?_
            rintro e w2 ⟨rfl, hb2⟩
            have e0 := (hb2.cell (p := ⟨b, o + k * 5, none⟩) hlt4).trans d0
            have HB2 := Lib.hid hb2
            clear d0 d1 d2 d3 d4 hb2
            go_wp2
            go_ret
            exact ⟨ret_i HY2.out.symm, below_then HB.out HB2.out⟩
          · have HK3 := Lib.hid (HK2.out (by rw [if_neg h6]))
            have q6 : (xd == 6) = false := by rw [beq_eq_false_iff_ne]; exact h6
            clear HK2 HY
            go_wp2_with fail
            refine (K.out _ (Below.refl _ _)).mono ?_
            rintro e w2 ⟨rfl, hb2⟩
            have e0 := (hb2.cell (p := ⟨b, o + k * 5, none⟩) hlt4).trans d0
            have HB2 := Lib.hid hb2
            clear d0 d1 d2 d3 d4 hb2
            go_wp2
            go_roundw
            case rel => exact ⟨k + 1, by omega, by go_num, HK3.out, below_then HB.out HB2.out⟩
            case measure => simp [intOf]; omega
        · have HY2 := Lib.hid (HY.out (by rw [if_pos h0]; exact h0))
          rw [if_pos h0] at HY2
          have q1 : (ic != 0) = true := by simpa using h0
          have q2 : (ic == 0) = false := by simpa using h0
          clear HK2 HY h0
          go_wp2_with fail
          refine (K.out _ (Below.refl _ _)).mono ?_
          rintro e w2 ⟨rfl, hb2⟩
          go_wp2
          go_ret
          exact ⟨ret_i HY2.out.symm, below_then HB.out hb2⟩
      · obtain rfl : k = n := by omega
        have hdp : ∀ i, i < k → 0 ≤ (l.getD i dIt).depth ∧ (l.getD i dIt).depth ≤ 6 := fun i hi => item_depth (by
          have h1 := HK.out i hi
          unfold moreAt at h1
          by_cases h2 : itemCode (l.getD i dIt) = 0
          · exact h2
          · rw [if_pos h2] at h1; exact h1)
        have K := Lib.hid (specMoreShape_any a k c l wr h20 hdp (H.out.below hb))
        have HC3 := Lib.hid (HC2.out HK.out)
        clear hdp
        generalize moreStands l = st at K HC3
        clear HC1 HC2
        cases st
        all_goals
          go_wp2_with fail
          refine K.out.mono ?_
          rintro e w2 ⟨rfl, nd, rfl⟩
          go_wp2
          go_ret
          exact ⟨ret_i HC3.out.symm, below_drewN hb nd⟩
theorem own_cells {w : World} {lo hi k c : Nat} {y : Addr} {l : List It} (h : OwnIts w lo hi (some y) k c l) :
    ∃ (A : Nat → Option Addr) (N C : Nat → Nat), (∀ j u, (flatI l A N C)[j]? = some u → w.cell? (y.add j) = some u) ∧ (∀ i, i < k → OwnAts w lo hi (A i) (N i) (C i) (l.getD i dIt).attrs ∧ (A i = none → C i = 0)) ∧
      (∀ i j, i < k → j < k → i ≠ j → ∀ x y, A i = some x → A j = some y → N i ≠ 0 → N j ≠ 0 → x.block ≠ y.block) := by
  by_cases h0 : k = 0
  · have hl : l = [] := List.length_eq_zero_iff.1 (by rw [h.len]; exact h0)
    subst hl
    refine ⟨fun _ => none, fun _ => 0, fun _ => 0, fun j u hj => ?_, fun i hi => by omega, fun i j hi => by omega⟩
    rw [List.getElem?_eq_none (by rw [flatI_length]; simp)] at hj
    cases hj
  · obtain ⟨b, A, N, C, hb, _, _, _, hc, _, he⟩ := h.row.resolve_left h0
    simp only [Option.some.injEq] at hb
    subst hb
    refine ⟨A, N, C, fun j u hj => ?_, fun i hi => ⟨(hc i hi).2, (hc i hi).1.nil⟩, he⟩
    have hlt : j < l.length * 5 := by
      rcases Nat.lt_or_ge j (l.length * 5) with h1 | h1
      · exact h1
      · rw [List.getElem?_eq_none (by rw [flatI_length]; exact h1)] at hj; cases hj
    have hl := h.len
    rw [flatI_get _ _ _ _ _ hlt] at hj
    have hu := Option.some.inj hj
    have h5 := (hc (j / 5) (by omega)).1
    have e : j = j / 5 * 5 + j % 5 := by omega
    have hq : j % 5 < 5 := by omega
    rw [e] at hu ⊢
    rw [cellI_five _ _ hq] at hu
    rw [Addr.add_lit, Nat.zero_add]
    generalize j % 5 = q at hu hq ⊢
    generalize j / 5 = i at hu h5 ⊢
    rcases q with _ | _ | _ | _ | _ | q
    · rw [← hu]; exact h5.c0
    · rw [← hu]; exact h5.c1
    · rw [← hu]; exact h5.c2
    · rw [← hu]; exact h5.c3
    · rw [← hu]; exact h5.c4
    · omega
theorem flatI_one (l : List It) (A : Nat → Option Addr) (N C : Nat → Nat) : ∀ u ∈ flatI l A N C, u.oneCell' = true := by
  intro u hu
  unfold flatI at hu
  rw [List.mem_map] at hu
  obtain ⟨j, _, rfl⟩ := hu
  unfold cellI
  split
  · rfl
  · split
    · rfl
    · split
      · rfl
      · split <;> rfl
theorem GrowIts.cellAt {w : World} {B g n c : Nat} {l : List It} {A : Nat → Option Addr} {N C : Nat → Nat} (h : GrowIts w B (.slice (some ⟨g, 0, none⟩) n c) n l A N C) (i q : Nat) (hi : i < n) (hq : q < 5) : w.cell? ⟨g, i * 5 + q, none⟩ = some (if q = 0 then .int .i64 (l.getD i dIt).depth else if q = 1 then .string (l.getD i dIt).text else if q = 2 then .string (l.getD i dIt).space else if q = 3 then .string (l.getD i dIt).name else .slice (A i) (N i) (C i)) := by
  have hlen := h.len
  rw [h.row.cellAt _ (by omega), flatI_get _ _ _ _ _ (by omega), cellI_five i q hq]
def MoreDrawn (w : World) (b : Nat) (a : Option Addr) (n c : Nat) (xs : List Int) (k : Nat) (en : Ending) (w' : World) : Prop :=
  ∃ (x : Addr) (m q : Nat) (l : List It) (A : Nat → Option Addr) (N C : Nat → Nat) (k' : Nat), en = .returned (.slice (some x) m q) ∧ GrowIts w' w.heap.size (.slice (some x) m q) m l A N C ∧ m ≤ 8 ∧ (∀ i, DrawnIt (l.getD i dIt)) ∧ k' ≤ k + 2100 ∧ Src w' b a n c xs k' ∧ w.grownBy w' (some b)
set_option maxRecDepth 100000 in
set_option maxHeartbeats 6400000 in
theorem l7More_any (b : Nat) (a : Option Addr) (n c : Nat) (xs : List Int) (k : Nat) (hk : k + 6000 < 1000000) (w : World) (h : Src w b a n c xs k) :
    Calls Tryz.prog 63 #[.pointer (some ⟨b, 0, none⟩)] w (MoreDrawn w b a n c xs k) := by
  obtain ⟨i0, hi, hz0, hi1, hz2⟩ := info_parts itemInfo
  unfold MoreDrawn
  have hblt := h.lt
  have KT := Lib.hid (fun (k : Nat) (hk : k + 2000 < 1000000) (W : World) (h : Src W b a n c xs k) => l4Draw_any b a n c xs k 4 (by decide) (by decide) hk W h)
  unfold TreeDrawn at KT
  simp only [show ((4 : Nat) : Int) = 4 from rfl] at KT
  have KN := l1Next_any b a n c xs k 3 (by decide) (by decide) (by omega)
  unfold NextRes at KN
  have HS := Lib.hid (h.below (below1 w (.cells #[] 54)))
  have HG : Hid (GrowIts (w.alloc (.cells #[] 54)) w.heap.size (.slice (some ⟨w.heap.size, 0, none⟩) 0 0) 0 [] (fun _ => none) (fun _ => 0) (fun _ => 0)) := Lib.hid ⟨lit_item w, fun i hi => by simp at hi, fun i hi => by simp at hi, fun i j hi => by simp at hi⟩
  have HE := Lib.hid (grown_of_below (below1 w (.cells #[] 54)) (some b))
  have hD0 : ∀ i, DrawnIt (([] : List It).getD i dIt) := fun i => by simpa using dIt_drawn
  have HD := Lib.hid hD0
  clear h hD0
  go_enter Tryz.func63, Tryz.ntmps63
  go_wp2_with fail
  refine (KN _ HS.out).mono ?_
  rintro e w1 ⟨r0, rfl, hr0, hs1, hg1⟩
  have hr0 := hr0 (by decide)
  have S1 := Lib.hid hs1
  have G1 := Lib.hid (HG.out.onlyP (Only.grown hg1) (fun i h1 _ h2 => by simp only [Option.some.injEq] at h2; omega))
  have E1 := Lib.hid (grown_trans_row HE.out hg1)
  clear hs1 hg1 HS HG HE KN
  go_wp2
  go_loopw [3, 4] (fun v i wr => ∃ (j m q : Nat) (x : Addr) (l : List It) (A : Nat → Option Addr) (N C : Nat → Nat) (k' : Nat), v = .slice (some x) m q ∧ i = .int .i64 j ∧ m + 4 * j ≤ 8 ∧ k' + 1000 * j ≤ k + 2001 ∧ Hid (GrowIts wr w.heap.size (.slice (some x) m q) m l A N C) ∧ Hid (∀ i, DrawnIt (l.getD i dIt)) ∧ Hid (Src wr b a n c xs k') ∧ Hid (w.grownBy wr (some b))) (fun _ i _ => (intOf i).toNat)
  case atStart => exact ⟨r0, 0, 0, _, [], _, _, _, k + 1, rfl, rfl, by omega, by omega, G1, HD, S1, E1⟩
  case round =>
    obtain ⟨j, m, q, x, l, A, N, C, k', rfl, rfl, hmj, hkj, G0, D0, S0, E0⟩ := hrel
    clear G1 HD S1 E1
    obtain ⟨wo, hwo⟩ : ∃ wo, wo = wr := ⟨_, rfl⟩
    subst hwo
    rcases j with _ | j
    · go_wp2
      go_ret
      exact ⟨x, m, q, l, A, N, C, k', rfl, G0.out, by omega, D0.out, by omega, S0.out, E0.out⟩
    · have qj : (0 : Int) < ((j + 1 : Nat) : Int) := by omega
      have hws : w.heap.size ≤ wo.heap.size := E0.out.size
      go_wp2_with fail
      refine (KT.out k' (by omega) _ S0.out).mono ?_
      rintro e w1 ⟨xt, mt, qt, lt, At, Nt, Ct, k1, rfl, gt, hm1, hm4, hDt, hk1, hs1, hg1⟩
      obtain ⟨bt, cap, cur, hv, hbt, _⟩ := gt.row.2.resolve_left (by omega)
      simp only [Value.slice.injEq] at hv
      obtain ⟨rfl, _, rfl⟩ := hv
      have G1 := Lib.hid gt.g
      have D1 := Lib.hid hDt
      have S1 := Lib.hid hs1
      have E1 := Lib.hid (grown_trans_row E0.out hg1)
      have O1 : Hid (Only (fun i => i = b ∨ wo.heap.size ≤ i) wo w1) := Lib.hid ((Only.grown hg1).mono fun i e => .inl (by simpa using e))
      clear gt hDt hs1 hg1
      go_wp2
      go_loopw [19] (fun v wq => ∃ (r : Nat) (l2 : List It), v = .int .i64 r ∧ r ≤ mt ∧ Hid (GrowIts wq wo.heap.size (.slice (some ⟨bt, 0, none⟩) mt qt) mt l2 At Nt Ct) ∧ Hid (∀ i, DrawnIt (l2.getD i dIt)) ∧ Hid (Src wq b a n c xs k1) ∧ Hid (w.grownBy wq (some b)) ∧ Hid (Only (fun i => i = b ∨ wo.heap.size ≤ i) wo wq)) (fun v _ => mt - (intOf v).toNat)
      case atStart => exact ⟨0, lt, rfl, Nat.zero_le _, G1, D1, S1, E1, O1⟩
      case round =>
        obtain ⟨r, l2, rfl, hr, G2, D2, S2, E2, O2⟩ := hrel
        clear G1 D1 S1 E1 O1
        by_cases hlt : r < mt
        · have p0 : wr.cell? ⟨bt, r * 5, none⟩ = some (.int .i64 (l2.getD r dIt).depth) := G2.out.cellAt r 0 hlt (by decide)
          have f0 : wr.frozen? ⟨bt, r * 5, none⟩ = false := G2.out.row.frozenAt (r * 5 + 0)
          have hl2 := G2.out.len
          have hdr := D2.out r
          obtain ⟨⟨yd, yt, ys, yn, ya⟩, hy⟩ : ∃ y, l2.getD r dIt = y := ⟨_, rfl⟩
          rw [hy] at hdr p0
          dsimp only at p0
          have hmi : 0 ≤ minI yd 5 ∧ minI yd 5 ≤ 6 := by have := hdr.depth; dsimp only at this; unfold minI; split <;> omega
          have KM := l1Min_any yd 5 wr
          have G3 := Lib.hid (G2.out.put (r := r) (f := 0) (y := ⟨minI yd 5, yt, ys, yn, ya⟩) (u := .int .i64 (minI yd 5)) hlt (by decide) rfl (.inl rfl) (.inr (by rw [hy])) (.inr (by rw [hy])) (.inr (by rw [hy])) (by rw [hy]))
          have D3 := Lib.hid (drawn_set D2.out (r := r) (y := ⟨minI yd 5, yt, ys, yn, ya⟩) ⟨hmi, hdr.sizes, hdr.few, hdr.short⟩)
          have S3 := Lib.hid (S2.out.grown (grown_set wr ⟨bt, r * 5 + 0, none⟩ (.int .i64 (minI yd 5))) (fun j e => by cases e; show b < bt; omega))
          have E3 := Lib.hid (grown_mix E2.out (grown_set wr ⟨bt, r * 5 + 0, none⟩ (.int .i64 (minI yd 5))) (fun g e => by cases e; show _ ≤ bt; omega))
          have O3 := Lib.hid (O2.out.trans (Only.set wr ⟨bt, r * 5 + 0, none⟩ (.int .i64 (minI yd 5)) (.inr hbt)))
          clear hdr hy hl2 G2 D2 S2 E2 O2
          have q0 : (r : Int) < (mt : Int) := by omega
          go_wp2_with fail
          refine KM.mono ?_
          rintro e w2 ⟨rfl, rfl⟩
          go_wp2
          go_roundw
          case rel => exact ⟨r + 1, _, by go_num, by omega, G3, D3, S3, E3, O3⟩
          case measure => simp [intOf]; omega
        · obtain rfl : r = mt := by omega
          have p2 : wr.cell? ⟨bt, 2, none⟩ = some (.string (l2.getD 0 dIt).space) := G2.out.cellAt 0 2 (by omega) (by decide)
          have f2 : wr.frozen? ⟨bt, 2, none⟩ = false := G2.out.row.frozenAt (0 * 5 + 2)
          have hdr := D2.out 0
          obtain ⟨⟨yd, yt, ys, yn, ya⟩, hy⟩ : ∃ y, l2.getD 0 dIt = y := ⟨_, rfl⟩
          rw [hy] at hdr p2
          dsimp only at p2
          have q0 : (0 : Int) < (r : Int) := by omega
          have KR : Hid (∀ (W : World), Only (fun i => i = b ∨ wo.heap.size ≤ i) wo W → GrowIts W w.heap.size (.slice (some x) m q) m l A N C) := Lib.hid (fun W ho => G0.out.onlyP ho (fun i h1 h2 hp => by rcases hp with hp | hp <;> omega))
          have KA : Hid (∀ W, GrowIts W w.heap.size (.slice (some x) m q) m l A N C → Calls Tryz.prog 41 #[.slice (some x) m q, .int .i64 0] W (ItsGrowS W (movedTo l 0 m 0))) := Lib.hid (fun W hg => specAllG_any w.heap.size W.heap.size (some x) m q 0 l W (fun i _ => by have := (D0.out i).depth; omega) (by decide) (fun i _ => by have := (D0.out i).few; omega) (hg.own (by omega) (drawn_sizes D0.out m)))
          unfold ItsGrowS at KA
          by_cases hcs : ys.toList = [106, 97, 98, 98, 101, 114, 58, 99, 108, 105, 101, 110, 116]
          · have G3 := Lib.hid (G2.out.put (r := 0) (f := 2) (y := ⟨yd, yt, ⟨#[117, 114, 110, 58, 122]⟩, yn, ya⟩) (u := .string ⟨#[117, 114, 110, 58, 122]⟩) (by omega) (by decide) rfl (.inr (by rw [hy])) (.inr (by rw [hy])) (.inl rfl) (.inr (by rw [hy])) (by rw [hy]))
            have D3 := Lib.hid (drawn_set D2.out (r := 0) (y := ⟨yd, yt, ⟨#[117, 114, 110, 58, 122]⟩, yn, ya⟩) ⟨hdr.depth, ⟨hdr.sizes.1, by show (5 : Nat) ≤ 60; decide, hdr.sizes.2.2⟩, hdr.few, hdr.short⟩)
            have S3 := Lib.hid (S2.out.grown (grown_set wr ⟨bt, 0 * 5 + 2, none⟩ (.string ⟨#[117, 114, 110, 58, 122]⟩)) (fun j e => by cases e; show b < bt; omega))
            have E3 := Lib.hid (grown_mix E2.out (grown_set wr ⟨bt, 0 * 5 + 2, none⟩ (.string ⟨#[117, 114, 110, 58, 122]⟩)) (fun g e => by cases e; show _ ≤ bt; omega))
            have O3 := Lib.hid (O2.out.trans (Only.set wr ⟨bt, 0 * 5 + 2, none⟩ (.string ⟨#[117, 114, 110, 58, 122]⟩) (.inr hbt)))
            clear hdr hy G2 D2 S2 E2 O2
            go_upto_region 13 with fail
            have HL3 := Lib.hid G3.out.len
            have GO := KR.out _ O3.out
            have KA3 := KA.out _ GO
            have hzW := O3.out.size
            generalize hl3 : l2.set 0 ⟨yd, yt, ⟨#[117, 114, 110, 58, 122]⟩, yn, ya⟩ = l3 at *
            clear hl3
            have hp2 : World.setCell wr ⟨bt, 0 * 5 + 2, none⟩ (.string ⟨#[117, 114, 110, 58, 122]⟩) = wr.setCell ⟨bt, 2, none⟩ (.string ⟨#[117, 114, 110, 58, 122]⟩) := rfl
            rw [hp2] at G3 S3 E3 O3 KA3 hzW GO
            generalize wr.setCell ⟨bt, 2, none⟩ (.string ⟨#[117, 114, 110, 58, 122]⟩) = W3 at *
            clear KA GO
            go_wp2_with fail
            refine KA3.mono ?_
            clear KA3
            rintro e w4 ⟨x4, n4, c4, A4, N4, C4, rfl, hg4, hb4⟩
            obtain rfl : m = n4 := by have := hg4.len; rw [movedTo_length] at this; omega
            have GJ := Lib.hid hg4
            have T4 := Lib.hid (G3.out.below hb4)
            have DJ := Lib.hid (drawn_append (drawn_moved D0.out m) D3.out)
            have S4 := Lib.hid (S3.out.below hb4)
            have E4 := Lib.hid (step_below E3.out hb4)
            have O4 := Lib.hid (O3.out.trans (Only.below hb4))
            have AT4 : Hid (∀ i, i < r → OwnAts w4 wo.heap.size W3.heap.size (At i) (Nt i) (Ct i) (l3.getD i dIt).attrs ∧ (At i = none → Ct i = 0)) := Lib.hid (fun i hi => ⟨(G3.out.ats i (by have := HL3.out; omega)).1.only (Only.below (P := fun _ => False) hb4) (fun _ _ _ h => h), (G3.out.ats i (by have := HL3.out; omega)).2⟩)
            have EA4 : Hid (∀ i j, i < r → j < r → i ≠ j → ∀ x y, At i = some x → At j = some y → Nt i ≠ 0 → Nt j ≠ 0 → x.block ≠ y.block) := Lib.hid (fun i j hi hj => G3.out.each i j (by have := HL3.out; omega) (by have := HL3.out; omega))
            have hz4 : W3.heap.size ≤ w4.heap.size := hb4.size
            clear hg4 hb4 G3 D3 S3 E3 O3
            go_wp2_with (at_builtin; refine wpList_append_own_at _ rfl _ _ 24 rfl W3.heap.size 54 i0 (.agg #[.int .i64 0, .string ByteArray.empty, .string ByteArray.empty, .string ByteArray.empty, .slice none 0 0]) 5 80 Tryz.underlying24 hi hz0 hi1 hz2 rfl (by decide) _ m _ rfl GJ.out.row ⟨bt, 0, none⟩ r qt (flatI l3 At Nt Ct) rfl ?c6 ?c1 ?c2 ?c3 ?c4 ?c5 ?_)
            case c6 => rw [flatI_length, HL3.out]
            case c1 => exact T4.out.row.cells rfl
            case c2 => exact flatI_one _ _ _ _
            case c3 => unfold maxLen; omega
            case c4 => omega
            case c5 => exact hz4
            intro v' w5 hown' hgr _ hat
            obtain ⟨a5, c5, rfl⟩ := owns_slice hown'
            obtain ⟨x5, rfl⟩ := owns_some hown' (by omega)
            have G5 := Lib.hid (GJ.out.joinO (B := w.heap.size) (B2 := wo.heap.size) HL3.out AT4.out EA4.out (by omega) hws hz4 hown' hgr (hat.imp id fun e => ⟨w4.heap.size, e, Nat.le_refl _⟩))
            have hrow : ∀ g, (Value.slice (some x4) m c4).ownBlock = some g → W3.heap.size ≤ g := fun g e => (GJ.out.row.lt g e).1
            have S5 := Lib.hid (S4.out.grown hgr (fun g e => by have := hrow g e; omega))
            have E5 := Lib.hid (grown_mix E4.out hgr (fun g e => by have := hrow g e; omega))
            have O5 := Lib.hid (O4.out.trans ((Only.grown hgr).mono fun i e => .inr (by have := hrow i e.symm; omega)))
            clear hown' hgr hat hrow AT4 EA4 GJ T4 S4 E4 O4
            have hl5 := G5.out.len
            have KF := specMoreFault_any (some x5) (m + r) c5 (movedTo l 0 m 0 ++ l3) w5 (drawn_small DJ.out (by omega)) (G5.out.own (by omega) (drawn_sizes DJ.out _)).its
            generalize moreCode (movedTo l 0 m 0 ++ l3) = cd at KF
            clear hl5
            go_wp2_with fail
            refine KF.mono ?_
            clear KF
            rintro e w6 ⟨rfl, hb6⟩
            have G6 := Lib.hid (G5.out.below hb6)
            have S6 := Lib.hid (S5.out.below hb6)
            have E6 := Lib.hid (step_below E5.out hb6)
            have GO6 := Lib.hid (KR.out _ (O5.out.trans (Only.below hb6)))
            clear hb6 G5 S5 E5 O5 KR
            by_cases hcd : cd = 0
            · have hcd1 : (cd == 0) = true := by rw [beq_iff_eq]; exact hcd
              clear hcd
              go_wp2
              go_roundw
              case rel => exact ⟨j, m + r, c5, x5, _, _, _, _, k1, rfl, by go_num, by omega, by omega, G6, DJ, S6, E6⟩
              case measure => simp [intOf]
            · have hcd1 : (cd == 0) = false := by rw [beq_eq_false_iff_ne]; exact hcd
              clear hcd
              go_wp2
              go_roundw
              case rel => exact ⟨j, m, q, x, l, A, N, C, k1, rfl, by go_num, by omega, by omega, GO6, D0, S6, E6⟩
              case measure => simp [intOf]
          · have hcs2 : decide (ys.toList = [106, 97, 98, 98, 101, 114, 58, 99, 108, 105, 101, 110, 116]) = false := by simp [hcs]
            have hcs3 : (ys.toList == [106, 97, 98, 98, 101, 114, 58, 99, 108, 105, 101, 110, 116]) = false := by rw [beq_eq_false_iff_ne]; exact hcs
            have G3 := G2
            have D3 := D2
            have S3 := S2
            have E3 := E2
            have O3 := O2
            clear G2 D2 S2 E2 O2 hdr hy
            go_upto_region 13 with fail
            have HL3 := Lib.hid G3.out.len
            have GO := KR.out _ O3.out
            have KA3 := KA.out _ GO
            have hzW := O3.out.size
            obtain ⟨l3, hl3⟩ : ∃ l3, l3 = l2 := ⟨_, rfl⟩
            obtain ⟨W3, hW3⟩ : ∃ W3, W3 = wr := ⟨_, rfl⟩
            subst hl3 hW3
            clear KA GO
            go_wp2_with fail
            refine KA3.mono ?_
            clear KA3
            rintro e w4 ⟨x4, n4, c4, A4, N4, C4, rfl, hg4, hb4⟩
            obtain rfl : m = n4 := by have := hg4.len; rw [movedTo_length] at this; omega
            have GJ := Lib.hid hg4
            have T4 := Lib.hid (G3.out.below hb4)
            have DJ := Lib.hid (drawn_append (drawn_moved D0.out m) D3.out)
            have S4 := Lib.hid (S3.out.below hb4)
            have E4 := Lib.hid (step_below E3.out hb4)
            have O4 := Lib.hid (O3.out.trans (Only.below hb4))
            have AT4 : Hid (∀ i, i < r → OwnAts w4 wo.heap.size W3.heap.size (At i) (Nt i) (Ct i) (l3.getD i dIt).attrs ∧ (At i = none → Ct i = 0)) := Lib.hid (fun i hi => ⟨(G3.out.ats i (by have := HL3.out; omega)).1.only (Only.below (P := fun _ => False) hb4) (fun _ _ _ h => h), (G3.out.ats i (by have := HL3.out; omega)).2⟩)
            have EA4 : Hid (∀ i j, i < r → j < r → i ≠ j → ∀ x y, At i = some x → At j = some y → Nt i ≠ 0 → Nt j ≠ 0 → x.block ≠ y.block) := Lib.hid (fun i j hi hj => G3.out.each i j (by have := HL3.out; omega) (by have := HL3.out; omega))
            have hz4 : W3.heap.size ≤ w4.heap.size := hb4.size
            clear hg4 hb4 G3 D3 S3 E3 O3
            go_wp2_with (at_builtin; refine wpList_append_own_at _ rfl _ _ 24 rfl W3.heap.size 54 i0 (.agg #[.int .i64 0, .string ByteArray.empty, .string ByteArray.empty, .string ByteArray.empty, .slice none 0 0]) 5 80 Tryz.underlying24 hi hz0 hi1 hz2 rfl (by decide) _ m _ rfl GJ.out.row ⟨bt, 0, none⟩ r qt (flatI l3 At Nt Ct) rfl ?c6 ?c1 ?c2 ?c3 ?c4 ?c5 ?_)
            case c6 => rw [flatI_length, HL3.out]
            case c1 => exact T4.out.row.cells rfl
            case c2 => exact flatI_one _ _ _ _
            case c3 => unfold maxLen; omega
            case c4 => omega
            case c5 => exact hz4
            intro v' w5 hown' hgr _ hat
            obtain ⟨a5, c5, rfl⟩ := owns_slice hown'
            obtain ⟨x5, rfl⟩ := owns_some hown' (by omega)
            have G5 := Lib.hid (GJ.out.joinO (B := w.heap.size) (B2 := wo.heap.size) HL3.out AT4.out EA4.out (by omega) hws hz4 hown' hgr (hat.imp id fun e => ⟨w4.heap.size, e, Nat.le_refl _⟩))
            have hrow : ∀ g, (Value.slice (some x4) m c4).ownBlock = some g → W3.heap.size ≤ g := fun g e => (GJ.out.row.lt g e).1
            have S5 := Lib.hid (S4.out.grown hgr (fun g e => by have := hrow g e; omega))
            have E5 := Lib.hid (grown_mix E4.out hgr (fun g e => by have := hrow g e; omega))
            have O5 := Lib.hid (O4.out.trans ((Only.grown hgr).mono fun i e => .inr (by have := hrow i e.symm; omega)))
            clear hown' hgr hat hrow AT4 EA4 GJ T4 S4 E4 O4
            have hl5 := G5.out.len
            have KF := specMoreFault_any (some x5) (m + r) c5 (movedTo l 0 m 0 ++ l3) w5 (drawn_small DJ.out (by omega)) (G5.out.own (by omega) (drawn_sizes DJ.out _)).its
            generalize moreCode (movedTo l 0 m 0 ++ l3) = cd at KF
            clear hl5
            go_wp2_with fail
            refine KF.mono ?_
            clear KF
            rintro e w6 ⟨rfl, hb6⟩
            have G6 := Lib.hid (G5.out.below hb6)
            have S6 := Lib.hid (S5.out.below hb6)
            have E6 := Lib.hid (step_below E5.out hb6)
            have GO6 := Lib.hid (KR.out _ (O5.out.trans (Only.below hb6)))
            clear hb6 G5 S5 E5 O5 KR
            by_cases hcd : cd = 0
            · have hcd1 : (cd == 0) = true := by rw [beq_iff_eq]; exact hcd
              clear hcd
              go_wp2
              go_roundw
              case rel => exact ⟨j, m + r, c5, x5, _, _, _, _, k1, rfl, by go_num, by omega, by omega, G6, DJ, S6, E6⟩
              case measure => simp [intOf]
            · have hcd1 : (cd == 0) = false := by rw [beq_eq_false_iff_ne]; exact hcd
              clear hcd
              go_wp2
              go_roundw
              case rel => exact ⟨j, m, q, x, l, A, N, C, k1, rfl, by go_num, by omega, by omega, GO6, D0, S6, E6⟩
              case measure => simp [intOf]
structure X7 (w : World) (x : Nat) (v0 v1 v2 v3 v4 v5 v6 : Value) : Prop where
  lt : x < w.heap.size
  c0 : w.cell? ⟨x, 0, none⟩ = some v0
  c1 : w.cell? ⟨x, 1, none⟩ = some v1
  c2 : w.cell? ⟨x, 2, none⟩ = some v2
  c3 : w.cell? ⟨x, 3, none⟩ = some v3
  c4 : w.cell? ⟨x, 4, none⟩ = some v4
  c5 : w.cell? ⟨x, 5, none⟩ = some v5
  c6 : w.cell? ⟨x, 6, none⟩ = some v6
  fz : ∀ i, i < 7 → w.frozen? ⟨x, i, none⟩ = false
theorem X7.grown {w w' : World} {x : Nat} {v0 v1 v2 v3 v4 v5 v6 : Value} {row : Option Nat} (h : X7 w x v0 v1 v2 v3 v4 v5 v6) (hg : w.grownBy w' row) (hne : some x ≠ row) : X7 w' x v0 v1 v2 v3 v4 v5 v6 :=
  ⟨Nat.lt_of_lt_of_le h.lt hg.size, hg.cell h.c0 hne, hg.cell h.c1 hne, hg.cell h.c2 hne, hg.cell h.c3 hne, hg.cell h.c4 hne, hg.cell h.c5 hne, hg.cell h.c6 hne, fun i hi => (hg.frozen_far ⟨x, i, none⟩ h.lt hne).trans (h.fz i hi)⟩
theorem X7.below {w w' : World} {x : Nat} {v0 v1 v2 v3 v4 v5 v6 : Value} (h : X7 w x v0 v1 v2 v3 v4 v5 v6) (hb : Below w.heap.size w w') : X7 w' x v0 v1 v2 v3 v4 v5 v6 := h.grown (row := none) (grown_below hb) (by simp)
theorem X7.new (w : World) (T : TypeId) (v0 v1 v2 v3 v4 v5 v6 : Value) : X7 (w.alloc (.cells #[v0, v1, v2, v3, v4, v5, v6] T)) w.heap.size v0 v1 v2 v3 v4 v5 v6 :=
  ⟨by simp, by simp, by simp, by simp, by simp, by simp, by simp, by simp, fun i _ => by simp⟩
theorem X7.set {w : World} {x : Nat} {v0 v1 v2 v3 v4 v5 v6 : Value} (h : X7 w x v0 v1 v2 v3 v4 v5 v6) (i : Nat) (v : Value) (hi : i < 7) : X7 (w.setCell ⟨x, i, none⟩ v) x (if i = 0 then v else v0) (if i = 1 then v else v1) (if i = 2 then v else v2) (if i = 3 then v else v3) (if i = 4 then v else v4) (if i = 5 then v else v5) (if i = 6 then v else v6) := by
  have key : ∀ (j : Nat) (u : Value), w.cell? ⟨x, j, none⟩ = some u → (w.setCell ⟨x, i, none⟩ v).cell? ⟨x, j, none⟩ = some (if i = j then v else u) := by
    intro j u hu
    by_cases e : i = j
    · subst e
      rw [if_pos rfl]
      exact set_at hu
    · rw [if_neg e]
      exact set_oth e hu
  exact ⟨by simpa using h.lt, key 0 _ h.c0, key 1 _ h.c1, key 2 _ h.c2, key 3 _ h.c3, key 4 _ h.c4, key 5 _ h.c5, key 6 _ h.c6, fun k hk => by rw [World.frozen?_setCell]; exact h.fz k hk⟩
theorem X7.off {w : World} {x : Nat} {v0 v1 v2 v3 v4 v5 v6 : Value} (h : X7 w x v0 v1 v2 v3 v4 v5 v6) {p : Addr} (hp : p.block ≠ x) (v : Value) : X7 (w.setCell p v) x v0 v1 v2 v3 v4 v5 v6 := h.grown (grown_set w p v) (by intro e; injection e with e; exact hp e.symm)
theorem X7.fill {w : World} {x : Nat} {v0 v1 v2 v3 v4 v5 v6 : Value} (h : X7 w x v0 v1 v2 v3 v4 v5 v6) (u0 u1 u2 u3 u4 u5 u6 : Value) : X7 (((((((w.setCell ⟨x, 0, none⟩ u0).setCell ⟨x, 1, none⟩ u1).setCell ⟨x, 2, none⟩ u2).setCell ⟨x, 3, none⟩ u3).setCell ⟨x, 4, none⟩ u4).setCell ⟨x, 5, none⟩ u5).setCell ⟨x, 6, none⟩ u6) x u0 u1 u2 u3 u4 u5 u6 := by
  have := ((((((h.set 0 u0 (by decide)).set 1 u1 (by decide)).set 2 u2 (by decide)).set 3 u3 (by decide)).set 4 u4 (by decide)).set 5 u5 (by decide)).set 6 u6 (by decide)
  simpa using this
end Go.Proofs.YtjkmgpomcnplnaaGreatDoor
