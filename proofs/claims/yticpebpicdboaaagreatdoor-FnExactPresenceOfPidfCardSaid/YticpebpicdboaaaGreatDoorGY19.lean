/- What some items may tell of a presence, in plain words: the model's guess and the program's; of a pidf's tree both are right. -/
import Derived.Test.YticpebpicdboaaaGreatDoorGY14
import Derived.Test.YticpebpicdboaaaGreatDoorGY16
import Derived.Test.YticpebpicdboaaaGreatDoorGY17
import Derived.Test.YticpebpicdboaaaGreatDoorGY18
import Derived.Test.YticpebpicdboaaaGreatDoorGY13
import Derived.Test.YticpebpicdboaaaGreatDoorGY0
namespace Go.Proofs.YticpebpicdboaaaGreatDoor
open Go.ChangeShapes Go.WideShapes Go.ChangeAt Go.RowKit
set_option linter.unusedVariables false
set_option linter.unusedSimpArgs false

def actWs : List ByteArray := [⟨#[]⟩, awayNm, ⟨#[]⟩, busyNm]
def basicWs : List ByteArray := [openT, closedT]
def behind5 (s : ByteArray) : ByteArray := if 5 < s.size then s.extract 5 s.size else ⟨#[]⟩
def digits8 (s : ByteArray) : Int := numberL 10 4 (s.data.toList.take 1 ++ s.data.toList.drop 2)
/-- the thousandths of a share's text, or -1 -/
def read8 (s : ByteArray) : Int := if s.size = 5 ∧ s.data.toList.getD 1 0 = 46 then (if inB (digits8 s) 0 1000 then digits8 s else -1) else -1
/-- the model's guess, item by item -/
def stepM (l : List It) (i : Nat) (p : Pr) : Pr :=
  if (l.getD i dIt).name = basicNm then (if txtT (textL l i) = closedT then { p with kind := 1 } else p)
  else if (l.getD i dIt).name = awayNm then { p with shown := 1 }
  else if (l.getD i dIt).name = busyNm then { p with shown := 3 }
  else if (l.getD i dIt).name = noteNm then { p with status := txtT (textL l i) }
  else if (l.getD i dIt).name = contNm then { p with prio := prioVal (read8 (valT (valueL (l.getD i dIt).attrs prioKey))) }
  else p
def startM (l : List It) : Pr := { dPr with sender := behind5 (valT (valueL (l.getD 0 dIt).attrs entityNm)) }
def upM (l : List It) : Nat → Pr
  | 0 => startM l
  | k + 1 => stepM l k (upM l k)
def guessM (l : List It) : Pr := upM l l.length
/-- the program's guess -/
def off5 (s : ByteArray) : ByteArray := ⟨(Lib.trimPrefix s.data.toList presP.data.toList).toArray⟩
def showIx (l : List It) (i : Nat) : Int := match (kidsUp l l.length i).find? (fun k => decide (0 ≤ hasIx actWs (l.getD k dIt).name)) with | some k => hasIx actWs (l.getD k dIt).name | none => 0
def stepP (l : List It) (i : Nat) (p : Pr) : Pr :=
  if (l.getD i dIt).name = basicNm then { p with kind := hasIx basicWs (txtT (textL l i)) }
  else if (l.getD i dIt).name = actNm then { p with shown := showIx l i }
  else if (l.getD i dIt).name = contNm then { p with prio := prioWith (valT (valueL (l.getD i dIt).attrs prioKey)) }
  else if (l.getD i dIt).name = noteNm then { p with status := txtT (textL l i) }
  else p
def startP (l : List It) : Pr := { dPr with sender := off5 (valT (valueL (l.getD 0 dIt).attrs entityNm)) }
def upP (l : List It) : Nat → Pr
  | 0 => startP l
  | k + 1 => stepP l k (upP l k)
def isNote (l : List It) (i : Nat) : Bool := decide ((l.getD i dIt).name = noteNm)
/-- where the program's search ends -/
def stopP (l : List It) : Nat := min ((List.range l.length).findIdx (isNote l) + 1) l.length
def guessP (l : List It) : Pr := upP l (stopP l)
theorem guessP_note {l : List It} {k : Nat} (hk : k < l.length) (h0 : ∀ j, j < k → isNote l j = false) (h1 : isNote l k = true) : guessP l = upP l (k + 1) := by
  have e : (List.range l.length).findIdx (isNote l) = k := by
    rw [List.findIdx_eq (by simpa using hk)]
    refine ⟨by simpa using h1, fun j hj => by simpa using h0 j hj⟩
  unfold guessP stopP
  rw [e, Nat.min_eq_left (by omega)]
theorem guessP_none {l : List It} (h0 : ∀ j, j < l.length → isNote l j = false) : guessP l = upP l l.length := by
  have e : (List.range l.length).findIdx (isNote l) = l.length := by
    have := List.findIdx_eq_length (p := isNote l) (xs := List.range l.length)
    rw [List.length_range] at this
    exact this.2 fun x hx => h0 x (List.mem_range.1 hx)
  unfold guessP stopP
  rw [e, Nat.min_eq_right (by omega)]
/-- an item in which there is one item and no more -/
theorem end_one {l : List It} {i : Nat} (h1 : i + 1 < l.length) (hd : dp l (i + 1) = dp l i + 1) (h2 : i + 2 = l.length ∨ dp l (i + 2) ≤ dp l i) : endL l i = i + 2 := by
  unfold endL
  unfold dp at hd h2
  obtain ⟨f, hf⟩ : ∃ f, l.length - (i + 1) = f + 1 := ⟨l.length - (i + 1) - 1, by omega⟩
  rw [hf]
  unfold endF
  rw [if_pos (by omega)]
  cases f with
  | zero => rfl
  | succ f =>
    unfold endF
    rw [show i + 1 + 1 = i + 2 from rfl, if_neg (by omega)]
theorem text_one {l : List It} {i : Nat} (h1 : i + 1 < l.length) (hd : dp l (i + 1) = dp l i + 1) (h2 : i + 2 = l.length ∨ dp l (i + 2) ≤ dp l i) (hn : (l.getD (i + 1) dIt).name = ⟨#[]⟩) : txtT (textL l i) = (l.getD (i + 1) dIt).text := by
  have he : (⟨#[]⟩ : ByteArray).toList.isEmpty = true := by rw [ByteArray.toList_eq]; rfl
  unfold textL
  rw [end_one h1 hd h2, show i + 2 - (i + 1) = 0 + 1 by omega, textF, hn, if_pos he, textF]
  show ByteArray.empty ++ _ = _
  apply ByteArray.ext
  simp
theorem kids_one {l : List It} (hR : Rises l) {i : Nat} (h1 : i + 1 < l.length) (hd : dp l (i + 1) = dp l i + 1) (h2 : i + 2 = l.length ∨ dp l (i + 2) ≤ dp l i) : kidsUp l l.length i = [i + 1] := by
  have he := end_one h1 hd h2
  have hk : kidB l i (i + 1) = true := (kid_iff hR (by omega) h1).2 ⟨by omega, by omega, hd⟩
  rw [kids_all hR (by omega), he, show i + 2 = (i + 1) + 1 from rfl, kidsUp_succ, if_pos hk, kids_zero hR (by omega)]
  rfl
/-- what a presence that is its own projection is -/
structure OwnPr (p : Pr) : Prop where
  kd : p.kind = 0 ∨ p.kind = 1
  sh : p.shown = 0 ∨ p.shown = 1 ∨ p.shown = 3
  pr : 0 ≤ p.prio ∧ p.prio ≤ 127
  gl : p.goal = ByteArray.empty
  mo : p.more = []
  sz : 0 < p.sender.size
end Go.Proofs.YticpebpicdboaaaGreatDoor

/- spec.l4Same, spec.SameTrees. -/
namespace Go.Proofs.YticpebpicdboaaaGreatDoor
open Go.ChangeShapes Go.WideShapes Go.ChangeAt Go.RowKit
set_option linter.unusedVariables false

theorem neqAttr (s t s' t' : ByteArray) (q1 q2 : Bool) (h1 : (s.toList == s'.toList) = q1) (h2 : (t.toList == t'.toList) = q2) (w : World) : (binOp .neq 75 (.agg #[.string s, .string t]) (.agg #[.string s', .string t'])).run Tryz.prog w = .ok (.bool (!(q1 && q2))) w := by
  have u4 := Tryz.underlying9
  have hS : Tryz.prog.underlying 75 = some (.struct (Tryz.prog.fieldsOf 75)) := by kernel_rfl
  rw [run_neq_struct, show (10000 : Nat) = 9999 + 1 from rfl, run_equalIn_agg w 9999 _ _ _ hS (by kernel_rfl)]
  simp only [Program.fieldsOf, Tryz.underlying75]
  cases q1 <;> cases q2 <;> go_simp
theorem take_snocD {l : List At} {k : Nat} (h : k < l.length) : l.take (k + 1) = l.take k ++ [l.getD k dAt] := by
  rw [List.take_succ_eq_append_getElem h, List.getD_eq_getElem?_getD, List.getElem?_eq_getElem h]; rfl
set_option maxRecDepth 100000 in
set_option maxHeartbeats 3200000 in
theorem l4Same_a (b o b' o' : Nat) (x y : It) (w : World) (bb : Bool) (hbb : bb = true ↔ x.attrs = y.attrs) (h : ItAt w b o x) (h' : ItAt w b' o' y) (hd : x.depth = y.depth) (ht : x.text = y.text) (hs : x.space = y.space) (hn : x.name = y.name) (hl : x.attrs.length = y.attrs.length) :
    Calls Tryz.prog 156 #[.pointer (some ⟨b, o, none⟩), .pointer (some ⟨b', o', none⟩)] w fun e w' => e = .returned (.bool bb) ∧ ∃ n, w' = w.drewN n := by
  have d0 := h.c0
  have e0 := h'.c0
  have d1 := h.c1
  have e1 := h'.c1
  have d2 := h.c2
  have e2 := h'.c2
  have d3 := h.c3
  have e3 := h'.c3
  obtain ⟨a4, n4, c4, d4, hat⟩ := h.c4
  obtain ⟨a5, n5, c5, e4, hat'⟩ := h'.c4
  obtain rfl : n4 = n5 := by rw [← hat.len, ← hat'.len]; exact hl
  have hm := hat.max
  have HR := Lib.hid hat.row
  have HR' := Lib.hid hat'.row
  have HL := Lib.hid hat.len
  have HL' := Lib.hid hat'.len
  obtain ⟨xd, xt, xs, xn, xa⟩ := x
  obtain ⟨yd, yt, ys, yn, ya⟩ := y
  dsimp only at hd ht hs hn hl d0 e0 d1 e1 d2 e2 d3 e3 hbb HR HR' HL HL'
  subst hd
  subst ht
  subst hs
  subst hn
  have HBB := Lib.hid hbb
  have q0 : (xd != xd) = false := by simp
  clear h h' hat hat' hl hbb
  go_enter Tryz.func156, Tryz.ntmps156
  go_wp2_with fail
  go_quiet (fail)
  go_wp2
  clear d0 e0 d1 e1 d2 e2 d3 e3 q0
  go_loopw [66] (fun i wr => ∃ k : Nat, k ≤ n4 ∧ i = .int .i64 k ∧ xa.take k = ya.take k ∧ ∃ n, wr = w.drewN n) (fun i _ => n4 - (intOf i).toNat)
  case atStart => exact ⟨0, Nat.zero_le _, rfl, rfl, _, rfl⟩
  case round =>
    obtain ⟨k, hk, rfl, ht, nd, rfl⟩ := hrel
    have HT := Lib.hid ht
    clear ht
    by_cases hlt : k < n4
    · rcases HR.out with e0 | ⟨b4, o4, rfl, h3, h4⟩
      · omega
      rcases HR'.out with e0 | ⟨b5, o5, rfl, h3', h4'⟩
      · omega
      have f0 := (h4 k hlt).1
      have f1 := (h4 k hlt).2
      have g0 := (h4' k hlt).1
      have g1 := (h4' k hlt).2
      clear h4 h4'
      have k1 : (k : Int) < (n4 : Int) := by omega
      have HE : Hid (xa.getD k dAt = ya.getD k dAt → xa.take (k + 1) = ya.take (k + 1)) := Lib.hid fun e => by
        rw [take_snocD (by have := HL.out; omega), take_snocD (l := ya) (by have := HL'.out; omega), HT.out, e]
      have HN : Hid (xa.getD k dAt ≠ ya.getD k dAt → bb = false) := Lib.hid fun e => by
        rw [Bool.eq_false_iff]
        intro hb
        exact e (by rw [HBB.out.1 hb])
      obtain ⟨p, hp⟩ : ∃ p, xa.getD k dAt = p := ⟨_, rfl⟩
      obtain ⟨q, hq⟩ : ∃ q, ya.getD k dAt = q := ⟨_, rfl⟩
      rw [hp] at f0 f1 HE HN
      rw [hq] at g0 g1 HE HN
      have HP := Lib.hid hp
      have HQ := Lib.hid hq
      clear hp hq
      obtain ⟨ps, pt⟩ := p
      obtain ⟨qs, qt⟩ := q
      dsimp only at f0 f1 g0 g1
      by_cases hne : ps = qs ∧ pt = qt
      · obtain ⟨rfl, rfl⟩ := hne
        have hfr := neqAttr ps pt ps pt true true (by simp) (by simp)
        go_wp2_with fail
        go_quiet (fail)
        go_wp2
        go_roundw
        case rel => exact ⟨k + 1, by omega, by go_num, HE.out trivial, _, rfl⟩
        case measure => simp [intOf]; omega
      · have hfr : ∀ w, (binOp .neq 75 (.agg #[.string ps, .string pt]) (.agg #[.string qs, .string qt])).run Tryz.prog w = .ok (.bool true) w := by
          intro W
          by_cases h1 : ps = qs
          · rw [neqAttr ps pt qs qt true false (by rw [h1]; simp) (toList_ne fun e => hne ⟨h1, e⟩)]; rfl
          · rw [neqAttr ps pt qs qt false _ (toList_ne h1) rfl]; rfl
        have HF := HN.out fun e => hne (by rw [At.mk.injEq] at e; exact e)
        subst HF
        clear hne HN HE
        go_wp2_with fail
        go_quiet (fail)
        go_wp2
        go_ret
        exact ⟨rfl, _, World.drewN_drewN _ _ _⟩
    · obtain rfl : k = n4 := by omega
      have HF : bb = true := HBB.out.2 (by
        have := HT.out
        rw [List.take_of_length_le (by have := HL.out; omega), List.take_of_length_le (by have := HL'.out; omega)] at this
        exact this)
      subst HF
      go_wp2
      go_ret
      exact ⟨rfl, _, rfl⟩

theorem l4Same_any (b o b' o' : Nat) (x y : It) (w : World) (bb : Bool) (hbb : bb = true ↔ x = y) (h : ItAt w b o x) (h' : ItAt w b' o' y) :
    Calls Tryz.prog 156 #[.pointer (some ⟨b, o, none⟩), .pointer (some ⟨b', o', none⟩)] w fun e w' => e = .returned (.bool bb) ∧ ∃ n, w' = w.drewN n := by
  have no : x ≠ y → bb = false := fun hne => by rw [Bool.eq_false_iff]; exact fun e => hne (hbb.1 e)
  by_cases hd : x.depth = y.depth
  · by_cases ht : x.text = y.text
    · by_cases hs : x.space = y.space
      · by_cases hn : x.name = y.name
        · by_cases hl : x.attrs.length = y.attrs.length
          · exact l4Same_a b o b' o' x y w bb ⟨fun e => by rw [hbb.1 e], fun e => hbb.2 (It.eq hd ht hs hn e)⟩ h h' hd ht hs hn hl
          · rw [no fun e => hl (by rw [e])]; exact l4Same_l b o b' o' x y w h h' hd ht hs hn hl
        · rw [no fun e => hn (by rw [e])]; exact l4Same_n b o b' o' x y w h h' hd ht hs hn
      · rw [no fun e => hs (by rw [e])]; exact l4Same_s b o b' o' x y w h h' hd ht hs
    · rw [no fun e => ht (by rw [e])]; exact l4Same_t b o b' o' x y w h h' hd ht
  · rw [no fun e => hd (by rw [e])]; exact l4Same_d b o b' o' x y w h h' hd

theorem take_snocI {l : List It} {k : Nat} (h : k < l.length) : l.take (k + 1) = l.take k ++ [l.getD k dIt] := by
  rw [List.take_succ_eq_append_getElem h, List.getD_eq_getElem?_getD, List.getElem?_eq_getElem h]; rfl

set_option maxRecDepth 100000 in
set_option maxHeartbeats 1600000 in
theorem specSameTrees_any (a a' : Option Addr) (n n' c c' : Nat) (l l' : List It) (w : World) (bb : Bool) (hbb : bb = true ↔ l = l') (h : ItsAt w a n c l) (h' : ItsAt w a' n' c' l') :
    Calls Tryz.prog 80 #[.slice a n c, .slice a' n' c'] w fun e w' => e = .returned (.bool bb) ∧ ∃ n, w' = w.drewN n := by
  have hm := h.max
  have hm' := h'.max
  have HR := Lib.hid h.row
  have HR' := Lib.hid h'.row
  have HL := Lib.hid h.len
  have HL' := Lib.hid h'.len
  have HBB := Lib.hid hbb
  clear h h' hbb
  by_cases hnn : n = n'
  · subst hnn
    go_enter Tryz.func80, Tryz.ntmps80
    go_wp2
    go_loopw [13] (fun i wr => ∃ k : Nat, k ≤ n ∧ i = .int .i64 k ∧ l.take k = l'.take k ∧ ∃ n, wr = w.drewN n) (fun i _ => n - (intOf i).toNat)
    case atStart => exact ⟨0, Nat.zero_le _, rfl, rfl, 0, rfl⟩
    case round =>
      obtain ⟨k, hk, rfl, ht, hw⟩ := hrel
      have HW := Lib.hid hw
      clear hw
      have HT := Lib.hid ht
      clear ht
      by_cases hlt : k < n
      · rcases HR.out with e0 | ⟨b, o, rfl, h4⟩
        · omega
        rcases HR'.out with e0 | ⟨b', o', rfl, h4'⟩
        · omega
        have hbw : Below w.heap.size w wr := by obtain ⟨nd, rfl⟩ := HW.out; exact below_drewN (Below.refl _ _) nd
        have hi := (h4 k hlt).below hbw
        have hi' := (h4' k hlt).below hbw
        clear hbw
        clear h4 h4'
        have k1 : (k : Int) < (n : Int) := by omega
        by_cases hne : l.getD k dIt = l'.getD k dIt
        · have HE : Hid (l.take (k + 1) = l'.take (k + 1)) := Lib.hid (by
            rw [take_snocI (by have := HL.out; omega), take_snocI (l := l') (by have := HL'.out; omega), HT.out, hne])
          have K := Lib.hid (fun (m : Nat) => l4Same_any b (o + k * 5) b' (o' + k * 5) (l.getD k dIt) (l'.getD k dIt) (wr.drewN m) true (iff_of_true rfl hne) (hi.below (below_drewN (Below.refl _ _) m)) (hi'.below (below_drewN (Below.refl _ _) m)))
          clear hne hi hi'
          go_wp2_with fail
          go_quiet ((go_at_call 156; exact Calls.quiet_of (K.out _)))
          go_wp2
          go_roundw
          case rel => exact ⟨k + 1, by omega, by go_num, HE.out, drew_more HW.out _⟩
          case measure => simp [intOf]; omega
        · have HF : bb = false := by
            rw [Bool.eq_false_iff]
            exact fun hb => hne (by rw [HBB.out.1 hb])
          subst HF
          have K := Lib.hid (fun (m : Nat) => l4Same_any b (o + k * 5) b' (o' + k * 5) (l.getD k dIt) (l'.getD k dIt) (wr.drewN m) false (iff_of_false (by decide) hne) (hi.below (below_drewN (Below.refl _ _) m)) (hi'.below (below_drewN (Below.refl _ _) m)))
          clear hne hi hi'
          go_wp2_with fail
          go_quiet ((go_at_call 156; exact Calls.quiet_of (K.out _)))
          go_wp2
          go_ret
          exact ⟨rfl, drew_more HW.out _⟩
      · obtain rfl : k = n := by omega
        have HF : bb = true := HBB.out.2 (by
          have := HT.out
          rw [List.take_of_length_le (by have := HL.out; omega), List.take_of_length_le (by have := HL'.out; omega)] at this
          exact this)
        subst HF
        go_wp2
        go_ret
        exact ⟨rfl, HW.out⟩
  · have HF : bb = false := by
      rw [Bool.eq_false_iff]
      exact fun hb => hnn (by rw [← HL.out, ← HL'.out, HBB.out.1 hb])
    subst HF
    have q1 : ((n : Int) != (n' : Int)) = true := by rw [bne_iff_ne]; omega
    have q2 : ((n : Int) == (n' : Int)) = false := by rw [beq_eq_false_iff_ne]; omega
    clear hnn
    go_enter Tryz.func80, Tryz.ntmps80
    go_wp2
    go_ret
    exact ⟨rfl, 0, rfl⟩
end Go.Proofs.YticpebpicdboaaaGreatDoor

/- spec.SamePresences. -/
namespace Go.Proofs.YticpebpicdboaaaGreatDoor
open Go.ChangeShapes Go.WideShapes Go.ChangeAt Go.RowKit
set_option linter.unusedVariables false

theorem Pr.eq {x y : Pr} (h0 : x.kind = y.kind) (h1 : x.sender = y.sender) (h2 : x.goal = y.goal) (h3 : x.shown = y.shown) (h4 : x.status = y.status) (h5 : x.prio = y.prio) (h6 : x.more = y.more) : x = y := by cases x; cases y; simp_all
theorem str_ne {s t : ByteArray} (h : s ≠ t) : (s.toList == t.toList) = false := by
  rw [beq_eq_false_iff_ne]
  intro e
  rw [ByteArray.toList_eq, ByteArray.toList_eq] at e
  have h2 := Array.toList_inj.1 e
  exact h (by cases s; cases t; exact congrArg ByteArray.mk h2)
set_option maxRecDepth 100000 in
set_option maxHeartbeats 3200000 in
theorem specSamePresences_any (p p' : Pr) (a a' : Option Addr) (n n' c c' : Nat) (w : World) (bb : Bool) (hbb : bb = true ↔ p = p') (h : ItsAt w a n c p.more) (h' : ItsAt w a' n' c' p'.more) :
    Calls Tryz.prog 23 #[.agg #[.int .i64 p.kind, .string p.sender, .string p.goal, .int .i64 p.shown, .string p.status, .int .i64 p.prio, .slice a n c], .agg #[.int .i64 p'.kind, .string p'.sender, .string p'.goal, .int .i64 p'.shown, .string p'.status, .int .i64 p'.prio, .slice a' n' c']] w fun e w' => e = .returned (.bool bb) ∧ Below w.heap.size w w' := by
  have H := Lib.hid (h.below (below2 w (.cells #[.int .i64 p.kind, .string p.sender, .string p.goal, .int .i64 p.shown, .string p.status, .int .i64 p.prio, .slice a n c] 26) (.cells #[.int .i64 p'.kind, .string p'.sender, .string p'.goal, .int .i64 p'.shown, .string p'.status, .int .i64 p'.prio, .slice a' n' c'] 26)))
  have H' := Lib.hid (h'.below (below2 w (.cells #[.int .i64 p.kind, .string p.sender, .string p.goal, .int .i64 p.shown, .string p.status, .int .i64 p.prio, .slice a n c] 26) (.cells #[.int .i64 p'.kind, .string p'.sender, .string p'.goal, .int .i64 p'.shown, .string p'.status, .int .i64 p'.prio, .slice a' n' c'] 26)))
  clear h h'
  obtain ⟨pk, pf, pt, ps, pu, pp, pm⟩ := p
  obtain ⟨qk, qf, qt, qs, qu, qp, qm⟩ := p'
  dsimp only at H H' ⊢
  by_cases hk : pk = qk
  case neg =>
    have HF : Hid (bb = false) := Lib.hid (by rw [Bool.eq_false_iff]; exact fun e => hk (congrArg Pr.kind (hbb.1 e)))
    have q1 : (pk == qk) = false := by rw [beq_eq_false_iff_ne]; exact hk
    clear hk hbb
    rw [HF.out]
    go_enter Tryz.func23, Tryz.ntmps23
    go_wp2
    go_ret
    exact ⟨rfl, below2 w _ _⟩
  subst hk
  by_cases hf : pf = qf
  case neg =>
    have HF : Hid (bb = false) := Lib.hid (by rw [Bool.eq_false_iff]; exact fun e => hf (congrArg Pr.sender (hbb.1 e)))
    have q1 := str_ne hf
    clear hf hbb
    rw [HF.out]
    go_enter Tryz.func23, Tryz.ntmps23
    go_wp2
    go_ret
    exact ⟨rfl, below2 w _ _⟩
  subst hf
  by_cases ht : pt = qt
  case neg =>
    have HF : Hid (bb = false) := Lib.hid (by rw [Bool.eq_false_iff]; exact fun e => ht (congrArg Pr.goal (hbb.1 e)))
    have q1 := str_ne ht
    clear ht hbb
    rw [HF.out]
    go_enter Tryz.func23, Tryz.ntmps23
    go_wp2
    go_ret
    exact ⟨rfl, below2 w _ _⟩
  subst ht
  by_cases hs : ps = qs
  case neg =>
    have HF : Hid (bb = false) := Lib.hid (by rw [Bool.eq_false_iff]; exact fun e => hs (congrArg Pr.shown (hbb.1 e)))
    have q1 : (ps == qs) = false := by rw [beq_eq_false_iff_ne]; exact hs
    clear hs hbb
    rw [HF.out]
    go_enter Tryz.func23, Tryz.ntmps23
    go_wp2
    go_ret
    exact ⟨rfl, below2 w _ _⟩
  subst hs
  by_cases hu : pu = qu
  case neg =>
    have HF : Hid (bb = false) := Lib.hid (by rw [Bool.eq_false_iff]; exact fun e => hu (congrArg Pr.status (hbb.1 e)))
    have q1 := str_ne hu
    clear hu hbb
    rw [HF.out]
    go_enter Tryz.func23, Tryz.ntmps23
    go_wp2
    go_ret
    exact ⟨rfl, below2 w _ _⟩
  subst hu
  by_cases hp : pp = qp
  case neg =>
    have HF : Hid (bb = false) := Lib.hid (by rw [Bool.eq_false_iff]; exact fun e => hp (congrArg Pr.prio (hbb.1 e)))
    have q1 : (pp == qp) = false := by rw [beq_eq_false_iff_ne]; exact hp
    clear hp hbb
    rw [HF.out]
    go_enter Tryz.func23, Tryz.ntmps23
    go_wp2
    go_ret
    exact ⟨rfl, below2 w _ _⟩
  subst hp
  have hmm : bb = true ↔ pm = qm := hbb.trans ⟨fun e => congrArg Pr.more e, fun e => by rw [e]⟩
  have HM := Lib.hid hmm
  clear hbb hmm
  go_enter Tryz.func23, Tryz.ntmps23
  go_wp2_with fail
  refine (specSameTrees_any a a' n n' c c' pm qm _ bb HM.out H.out H'.out).mono ?_
  rintro e w2 ⟨rfl, nd, rfl⟩
  go_wp2
  go_ret
  exact ⟨rfl, below_drewN (below2 w _ _) nd⟩
end Go.Proofs.YticpebpicdboaaaGreatDoor

/- Of a pidf's tree both guesses are right. -/
namespace Go.Proofs.YticpebpicdboaaaGreatDoor
open Go.ChangeShapes Go.WideShapes Go.ChangeAt Go.RowKit
set_option linter.unusedVariables false
set_option linter.unusedSimpArgs false

theorem ownPr_of {p : Pr} (h : projCode p = 0) (hp : proj p = p) : OwnPr p := by
  have hk : presCode p = 0 := by
    unfold projCode at h
    split at h
    · rename_i h1; exact absurd h h1
    · rename_i h1; omega
  have h3 : askB (decide (1 < p.kind)) p.sender.toList.isEmpty = false := by
    unfold projCode at h
    rw [if_neg (by omega)] at h
    split at h
    · omega
    · rename_i h1
      simpa using h1
  unfold askB at h3
  rw [Bool.or_eq_false_iff, decide_eq_false_iff_not] at h3
  have hb := presCode_kind hk
  have hin : inB p.shown 0 4 = true ∧ inB p.prio (-128) 127 = true := by
    unfold presCode at hk
    split at hk
    · omega
    · rename_i h1
      rw [Bool.not_eq_false, Bool.and_eq_true, Bool.and_eq_true] at h1
      exact ⟨h1.1.2, h1.2⟩
  have e1 : sharedS p.shown = p.shown := congrArg Pr.shown hp
  have e2 : prioS p.prio = p.prio := congrArg Pr.prio hp
  have e3 : ByteArray.empty = p.goal := congrArg Pr.goal hp
  have e4 : [] = p.more := congrArg Pr.more hp
  obtain ⟨i1, i2⟩ := hin
  simp only [inB, decide_eq_true_eq] at i1 i2
  refine ⟨by omega, ?_, ?_, e3.symm, e4.symm, ?_⟩
  · unfold sharedS at e1
    split at e1
    · omega
    · split at e1
      · omega
      · omega
  · unfold prioS at e2
    split at e2 <;> omega
  · have h4 := h3.2
    rcases Nat.eq_zero_or_pos p.sender.size with h5 | h5
    · rw [ByteArray.toList_eq] at h4
      have : p.sender.data.toList = [] := List.eq_nil_of_length_eq_zero (by simpa using h5)
      rw [this] at h4
      cases h4
    · exact h5
theorem behind_pres (f : ByteArray) (h : 0 < f.size) : behind5 (presP ++ f) = f := by
  have hs : (presP ++ f).size = 5 + f.size := by rw [ByteArray.size_append]; rfl
  unfold behind5
  rw [if_pos (by omega)]
  apply ByteArray.ext
  apply Array.ext'
  rw [Lib.extract_to_end, ByteArray.data_append, Array.toList_append]
  show (presP.data.toList ++ f.data.toList).drop 5 = _
  rw [List.drop_append_of_le_length (by decide)]
  rfl
theorem off_pres (f : ByteArray) : off5 (presP ++ f) = f := by
  unfold off5
  apply ByteArray.ext
  apply Array.ext'
  rw [ByteArray.data_append, Array.toList_append]
  show Lib.trimPrefix (presP.data.toList ++ f.data.toList) presP.data.toList = f.data.toList
  unfold Lib.trimPrefix Lib.hasPrefix
  simp
def dig4 (m : Nat) : ByteArray := ((strOfNums [48 + ((m / 10 / 10 / 10 : Nat) : Int)] ++ strOfNums [48 + ((m / 10 / 10 : Nat) : Int) % 10]) ++ strOfNums [48 + ((m / 10 : Nat) : Int) % 10]) ++ strOfNums [48 + (m : Int) % 10]
theorem digT_4 {m : Nat} (h1 : 1000 ≤ m) (h2 : m < 10000) : digT m = dig4 m := by
  rw [digT_big (n := m) (by omega), digT_big (n := m / 10) (by omega), digT_big (n := m / 10 / 10) (by omega), digT_small (n := m / 10 / 10 / 10) (by omega)]
  rfl
def shareC (n : Nat) : ByteArray := strOfNums [48 + ((n / 1000 : Nat) : Int)] ++ ⟨#[46]⟩ ++ behindT (dig4 (1000 + n % 1000))
theorem shareT_C {n : Nat} (h : n ≤ 1000) : shareT n = shareC n := by
  unfold shareT shareC
  rw [digT_small (n := n / 1000) (by omega), digT_4 (by omega) (by omega)]
def thouN (k : Nat) : Nat := (1000 * k + 63) / 127
theorem share_is {k : Nat} (h : k ≤ 127) : shareText (thouVal ((k : Nat) : Int)) = shareC (thouN k) := by
  have e : thouVal ((k : Nat) : Int) = ((thouN k : Nat) : Int) := by
    unfold thouVal thouN inB
    rw [if_pos (by simp; omega)]
    omega
  have hle : thouN k ≤ 1000 := by unfold thouN; omega
  rw [e]
  unfold shareText inB
  rw [if_pos (by simp; omega), Int.toNat_natCast, shareT_C hle]
theorem back_all : (List.range 128).all (fun k => decide (prioVal (read8 (shareC (thouN k))) = ((k : Nat) : Int))) = true := by decide +kernel
theorem share_back (k : Nat) (hk : k ≤ 127) : prioVal (read8 (shareText (thouVal ((k : Nat) : Int)))) = ((k : Nat) : Int) := by
  rw [share_is hk]
  have := List.all_eq_true.1 back_all k (List.mem_range.2 (by omega))
  simpa using this
theorem share_with (k : Nat) (h1 : 1 ≤ k) (hk : k ≤ 127) : prioWith (shareText (thouVal ((k : Nat) : Int))) = ((k : Nat) : Int) := by
  refine prioWith_at h1 hk (fun j hj1 hj2 => str_ne fun e => ?_) (by simp)
  have h2 := share_back j (by omega)
  rw [e, share_back k hk] at h2
  omega
theorem empty_of {s : ByteArray} (h : s.toList.isEmpty = true) : s = ByteArray.empty := by
  rw [ByteArray.toList_eq] at h
  apply ByteArray.ext
  apply Array.ext'
  rw [List.isEmpty_iff.1 h]
  rfl
/-- the shapes of a pidf's tree -/
theorem pidf_000 {p : Pr} (ha : p.shown = 0) (hc : p.prio = 0) (hn : p.status.toList.isEmpty = true) : pidfL p = [rootP8 p.sender, elemI 1 pidfSp tupleNm [⟨idNm, tT⟩], elemI 2 pidfSp stNm [], elemI 3 pidfSp basicNm [], textI 4 (basicW p.kind)] := by
  unfold pidfL headP8 actsP8 contP8 noteP8
  rw [if_pos ha, if_pos hc, if_pos hn]
  rfl
theorem pidf_001 {p : Pr} (ha : p.shown = 0) (hc : p.prio = 0) (hn : p.status.toList.isEmpty = false) : pidfL p = [rootP8 p.sender, elemI 1 pidfSp tupleNm [⟨idNm, tT⟩], elemI 2 pidfSp stNm [], elemI 3 pidfSp basicNm [], textI 4 (basicW p.kind), elemI 2 pidfSp noteNm [], textI 3 p.status] := by
  unfold pidfL headP8 actsP8 contP8 noteP8
  rw [if_pos ha, if_pos hc, if_neg (by rw [hn]; simp)]
  rfl
theorem pidf_010 {p : Pr} (ha : p.shown = 0) (hc : p.prio ≠ 0) (hn : p.status.toList.isEmpty = true) : pidfL p = [rootP8 p.sender, elemI 1 pidfSp tupleNm [⟨idNm, tT⟩], elemI 2 pidfSp stNm [], elemI 3 pidfSp basicNm [], textI 4 (basicW p.kind), elemI 2 pidfSp contNm [⟨prioKey, shareText (thouVal p.prio)⟩], textI 3 (xmppP ++ p.sender)] := by
  unfold pidfL headP8 actsP8 contP8 noteP8
  rw [if_pos ha, if_neg hc, if_pos hn]
  rfl
theorem pidf_011 {p : Pr} (ha : p.shown = 0) (hc : p.prio ≠ 0) (hn : p.status.toList.isEmpty = false) : pidfL p = [rootP8 p.sender, elemI 1 pidfSp tupleNm [⟨idNm, tT⟩], elemI 2 pidfSp stNm [], elemI 3 pidfSp basicNm [], textI 4 (basicW p.kind), elemI 2 pidfSp contNm [⟨prioKey, shareText (thouVal p.prio)⟩], textI 3 (xmppP ++ p.sender), elemI 2 pidfSp noteNm [], textI 3 p.status] := by
  unfold pidfL headP8 actsP8 contP8 noteP8
  rw [if_pos ha, if_neg hc, if_neg (by rw [hn]; simp)]
  rfl
theorem pidf_100 {p : Pr} (ha : p.shown ≠ 0) (hc : p.prio = 0) (hn : p.status.toList.isEmpty = true) : pidfL p = [rootP8 p.sender, elemI 1 pidfSp tupleNm [⟨idNm, tT⟩], elemI 2 pidfSp stNm [], elemI 3 pidfSp basicNm [], textI 4 (basicW p.kind), elemI 2 rpidSp actNm [], elemI 3 rpidSp (actW p.shown) []] := by
  unfold pidfL headP8 actsP8 contP8 noteP8
  rw [if_neg ha, if_pos hc, if_pos hn]
  rfl
theorem pidf_101 {p : Pr} (ha : p.shown ≠ 0) (hc : p.prio = 0) (hn : p.status.toList.isEmpty = false) : pidfL p = [rootP8 p.sender, elemI 1 pidfSp tupleNm [⟨idNm, tT⟩], elemI 2 pidfSp stNm [], elemI 3 pidfSp basicNm [], textI 4 (basicW p.kind), elemI 2 rpidSp actNm [], elemI 3 rpidSp (actW p.shown) [], elemI 2 pidfSp noteNm [], textI 3 p.status] := by
  unfold pidfL headP8 actsP8 contP8 noteP8
  rw [if_neg ha, if_pos hc, if_neg (by rw [hn]; simp)]
  rfl
theorem pidf_110 {p : Pr} (ha : p.shown ≠ 0) (hc : p.prio ≠ 0) (hn : p.status.toList.isEmpty = true) : pidfL p = [rootP8 p.sender, elemI 1 pidfSp tupleNm [⟨idNm, tT⟩], elemI 2 pidfSp stNm [], elemI 3 pidfSp basicNm [], textI 4 (basicW p.kind), elemI 2 rpidSp actNm [], elemI 3 rpidSp (actW p.shown) [], elemI 2 pidfSp contNm [⟨prioKey, shareText (thouVal p.prio)⟩], textI 3 (xmppP ++ p.sender)] := by
  unfold pidfL headP8 actsP8 contP8 noteP8
  rw [if_neg ha, if_neg hc, if_pos hn]
  rfl
theorem pidf_111 {p : Pr} (ha : p.shown ≠ 0) (hc : p.prio ≠ 0) (hn : p.status.toList.isEmpty = false) : pidfL p = [rootP8 p.sender, elemI 1 pidfSp tupleNm [⟨idNm, tT⟩], elemI 2 pidfSp stNm [], elemI 3 pidfSp basicNm [], textI 4 (basicW p.kind), elemI 2 rpidSp actNm [], elemI 3 rpidSp (actW p.shown) [], elemI 2 pidfSp contNm [⟨prioKey, shareText (thouVal p.prio)⟩], textI 3 (xmppP ++ p.sender), elemI 2 pidfSp noteNm [], textI 3 p.status] := by
  unfold pidfL headP8 actsP8 contP8 noteP8
  rw [if_neg ha, if_neg hc, if_neg (by rw [hn]; simp)]
  rfl
theorem guess_000 {p : Pr} (h : OwnPr p) (hR : Rises (pidfL p)) (ha : p.shown = 0) (hc : p.prio = 0) (hn : p.status.toList.isEmpty = true) : guessM (pidfL p) = p ∧ guessP (pidfL p) = p := by
  have e := pidf_000 ha hc hn
  obtain ⟨S, hS⟩ : ∃ S, pidfL p = S := ⟨_, rfl⟩
  rw [hS] at e hR ⊢
  have hl : S.length = 5 := by rw [e]; rfl
  have g0 : S.getD 0 dIt = rootP8 p.sender := by rw [e]; rfl
  have g1 : S.getD 1 dIt = elemI 1 pidfSp tupleNm [⟨idNm, tT⟩] := by rw [e]; rfl
  have g2 : S.getD 2 dIt = elemI 2 pidfSp stNm [] := by rw [e]; rfl
  have g3 : S.getD 3 dIt = elemI 3 pidfSp basicNm [] := by rw [e]; rfl
  have g4 : S.getD 4 dIt = textI 4 (basicW p.kind) := by rw [e]; rfl
  have d0 : dp S 0 = 0 := by unfold dp; rw [g0]; rfl
  have d1 : dp S 1 = 1 := by unfold dp; rw [g1]; rfl
  have d2 : dp S 2 = 2 := by unfold dp; rw [g2]; rfl
  have d3 : dp S 3 = 3 := by unfold dp; rw [g3]; rfl
  have d4 : dp S 4 = 4 := by unfold dp; rw [g4]; rfl
  have t3 : txtT (textL S 3) = basicW p.kind := by rw [text_one (by omega) (by rw [d4, d3]; rfl) (.inl (by rw [hl])) (by rw [g4]; rfl), g4]; rfl
  have v0 : valT (valueL (rootP8 p.sender).attrs entityNm) = presP ++ p.sender := by
    unfold valueL rootP8 elemI
    rw [List.find?_cons_of_pos (by simp)]
    rfl
  constructor
  · unfold guessM
    rw [hl]
    have s0 : upM S 0 = { dPr with sender := p.sender } := by
      show startM S = _
      unfold startM
      rw [g0, v0, behind_pres _ h.sz]
    have s1 : upM S 1 = { dPr with sender := p.sender } := by
      show stepM S 0 (upM S 0) = _
      unfold stepM
      rw [g0, s0]
      simp only [show (rootP8 p.sender).name = presNm from rfl]
      rw [if_neg (show ¬ presNm = basicNm by decide), if_neg (show ¬ presNm = awayNm by decide), if_neg (show ¬ presNm = busyNm by decide), if_neg (show ¬ presNm = noteNm by decide), if_neg (show ¬ presNm = contNm by decide)]
    have s2 : upM S 2 = { dPr with sender := p.sender } := by
      show stepM S 1 (upM S 1) = _
      unfold stepM
      rw [g1, s1]
      simp only [show (elemI 1 pidfSp tupleNm [⟨idNm, tT⟩]).name = tupleNm from rfl]
      rw [if_neg (show ¬ tupleNm = basicNm by decide), if_neg (show ¬ tupleNm = awayNm by decide), if_neg (show ¬ tupleNm = busyNm by decide), if_neg (show ¬ tupleNm = noteNm by decide), if_neg (show ¬ tupleNm = contNm by decide)]
    have s3 : upM S 3 = { dPr with sender := p.sender } := by
      show stepM S 2 (upM S 2) = _
      unfold stepM
      rw [g2, s2]
      simp only [show (elemI 2 pidfSp stNm []).name = stNm from rfl]
      rw [if_neg (show ¬ stNm = basicNm by decide), if_neg (show ¬ stNm = awayNm by decide), if_neg (show ¬ stNm = busyNm by decide), if_neg (show ¬ stNm = noteNm by decide), if_neg (show ¬ stNm = contNm by decide)]
    have s4 : upM S 4 = { dPr with sender := p.sender, kind := p.kind } := by
      show stepM S 3 (upM S 3) = _
      unfold stepM
      rw [g3, if_pos (show (elemI 3 pidfSp basicNm []).name = basicNm from rfl), t3, s3]
      rcases h.kd with hk | hk
      · rw [hk, if_neg (by decide)]; rfl
      · rw [hk, if_pos (by decide)]
    have s5 : upM S 5 = { dPr with sender := p.sender, kind := p.kind } := by
      show stepM S 4 (upM S 4) = _
      unfold stepM
      rw [g4, s4]
      simp only [show (textI 4 (basicW p.kind)).name = (⟨#[]⟩ : ByteArray) from rfl]
      rw [if_neg (show ¬ (⟨#[]⟩ : ByteArray) = basicNm by decide), if_neg (show ¬ (⟨#[]⟩ : ByteArray) = awayNm by decide), if_neg (show ¬ (⟨#[]⟩ : ByteArray) = busyNm by decide), if_neg (show ¬ (⟨#[]⟩ : ByteArray) = noteNm by decide), if_neg (show ¬ (⟨#[]⟩ : ByteArray) = contNm by decide)]
    rw [s5]
    obtain ⟨qk, qf, qt, qs, qu, qp, qm⟩ := p
    have e1 := h.gl
    have e2 := h.mo
    dsimp only at e1 e2
    subst e1
    subst e2
    obtain rfl : qs = 0 := ha
    obtain rfl : qp = 0 := hc
    obtain rfl := empty_of hn
    rfl
  · have hst : guessP S = upP S 5 := by
      have n0 : isNote S 0 = false := decide_eq_false (by rw [g0]; show ¬ presNm = noteNm; decide)
      have n1 : isNote S 1 = false := decide_eq_false (by rw [g1]; show ¬ tupleNm = noteNm; decide)
      have n2 : isNote S 2 = false := decide_eq_false (by rw [g2]; show ¬ stNm = noteNm; decide)
      have n3 : isNote S 3 = false := decide_eq_false (by rw [g3]; show ¬ basicNm = noteNm; decide)
      have n4 : isNote S 4 = false := decide_eq_false (by rw [g4]; show ¬ (⟨#[]⟩ : ByteArray) = noteNm; decide)
      rw [guessP_none (fun j hj => ?_), hl]
      rw [hl] at hj
      match j, hj with
      | 0, _ => exact n0
      | 1, _ => exact n1
      | 2, _ => exact n2
      | 3, _ => exact n3
      | 4, _ => exact n4
    rw [hst]
    have s0 : upP S 0 = { dPr with sender := p.sender } := by
      show startP S = _
      unfold startP
      rw [g0, v0, off_pres]
    have s1 : upP S 1 = { dPr with sender := p.sender } := by
      show stepP S 0 (upP S 0) = _
      unfold stepP
      rw [g0, s0]
      simp only [show (rootP8 p.sender).name = presNm from rfl]
      rw [if_neg (show ¬ presNm = basicNm by decide), if_neg (show ¬ presNm = actNm by decide), if_neg (show ¬ presNm = contNm by decide), if_neg (show ¬ presNm = noteNm by decide)]
    have s2 : upP S 2 = { dPr with sender := p.sender } := by
      show stepP S 1 (upP S 1) = _
      unfold stepP
      rw [g1, s1]
      simp only [show (elemI 1 pidfSp tupleNm [⟨idNm, tT⟩]).name = tupleNm from rfl]
      rw [if_neg (show ¬ tupleNm = basicNm by decide), if_neg (show ¬ tupleNm = actNm by decide), if_neg (show ¬ tupleNm = contNm by decide), if_neg (show ¬ tupleNm = noteNm by decide)]
    have s3 : upP S 3 = { dPr with sender := p.sender } := by
      show stepP S 2 (upP S 2) = _
      unfold stepP
      rw [g2, s2]
      simp only [show (elemI 2 pidfSp stNm []).name = stNm from rfl]
      rw [if_neg (show ¬ stNm = basicNm by decide), if_neg (show ¬ stNm = actNm by decide), if_neg (show ¬ stNm = contNm by decide), if_neg (show ¬ stNm = noteNm by decide)]
    have s4 : upP S 4 = { dPr with sender := p.sender, kind := p.kind } := by
      show stepP S 3 (upP S 3) = _
      unfold stepP
      rw [g3, if_pos (show (elemI 3 pidfSp basicNm []).name = basicNm from rfl), t3, s3]
      rcases h.kd with hk | hk
      · rw [hk, show hasIx basicWs (basicW 0) = 0 by decide +kernel]
      · rw [hk, show hasIx basicWs (basicW 1) = 1 by decide +kernel]
    have s5 : upP S 5 = { dPr with sender := p.sender, kind := p.kind } := by
      show stepP S 4 (upP S 4) = _
      unfold stepP
      rw [g4, s4]
      simp only [show (textI 4 (basicW p.kind)).name = (⟨#[]⟩ : ByteArray) from rfl]
      rw [if_neg (show ¬ (⟨#[]⟩ : ByteArray) = basicNm by decide), if_neg (show ¬ (⟨#[]⟩ : ByteArray) = actNm by decide), if_neg (show ¬ (⟨#[]⟩ : ByteArray) = contNm by decide), if_neg (show ¬ (⟨#[]⟩ : ByteArray) = noteNm by decide)]
    rw [s5]
    obtain ⟨qk, qf, qt, qs, qu, qp, qm⟩ := p
    have e1 := h.gl
    have e2 := h.mo
    dsimp only at e1 e2
    subst e1
    subst e2
    obtain rfl : qs = 0 := ha
    obtain rfl : qp = 0 := hc
    obtain rfl := empty_of hn
    rfl
theorem guess_001 {p : Pr} (h : OwnPr p) (hR : Rises (pidfL p)) (ha : p.shown = 0) (hc : p.prio = 0) (hn : p.status.toList.isEmpty = false) : guessM (pidfL p) = p ∧ guessP (pidfL p) = p := by
  have e := pidf_001 ha hc hn
  obtain ⟨S, hS⟩ : ∃ S, pidfL p = S := ⟨_, rfl⟩
  rw [hS] at e hR ⊢
  have hl : S.length = 7 := by rw [e]; rfl
  have g0 : S.getD 0 dIt = rootP8 p.sender := by rw [e]; rfl
  have g1 : S.getD 1 dIt = elemI 1 pidfSp tupleNm [⟨idNm, tT⟩] := by rw [e]; rfl
  have g2 : S.getD 2 dIt = elemI 2 pidfSp stNm [] := by rw [e]; rfl
  have g3 : S.getD 3 dIt = elemI 3 pidfSp basicNm [] := by rw [e]; rfl
  have g4 : S.getD 4 dIt = textI 4 (basicW p.kind) := by rw [e]; rfl
  have g5 : S.getD 5 dIt = elemI 2 pidfSp noteNm [] := by rw [e]; rfl
  have g6 : S.getD 6 dIt = textI 3 p.status := by rw [e]; rfl
  have d0 : dp S 0 = 0 := by unfold dp; rw [g0]; rfl
  have d1 : dp S 1 = 1 := by unfold dp; rw [g1]; rfl
  have d2 : dp S 2 = 2 := by unfold dp; rw [g2]; rfl
  have d3 : dp S 3 = 3 := by unfold dp; rw [g3]; rfl
  have d4 : dp S 4 = 4 := by unfold dp; rw [g4]; rfl
  have d5 : dp S 5 = 2 := by unfold dp; rw [g5]; rfl
  have d6 : dp S 6 = 3 := by unfold dp; rw [g6]; rfl
  have t3 : txtT (textL S 3) = basicW p.kind := by rw [text_one (by omega) (by rw [d4, d3]; rfl) (.inr (by rw [d5, d3]; decide)) (by rw [g4]; rfl), g4]; rfl
  have t5 : txtT (textL S 5) = p.status := by rw [text_one (by omega) (by rw [d6, d5]; rfl) (.inl (by rw [hl])) (by rw [g6]; rfl), g6]; rfl
  have v0 : valT (valueL (rootP8 p.sender).attrs entityNm) = presP ++ p.sender := by
    unfold valueL rootP8 elemI
    rw [List.find?_cons_of_pos (by simp)]
    rfl
  constructor
  · unfold guessM
    rw [hl]
    have s0 : upM S 0 = { dPr with sender := p.sender } := by
      show startM S = _
      unfold startM
      rw [g0, v0, behind_pres _ h.sz]
    have s1 : upM S 1 = { dPr with sender := p.sender } := by
      show stepM S 0 (upM S 0) = _
      unfold stepM
      rw [g0, s0]
      simp only [show (rootP8 p.sender).name = presNm from rfl]
      rw [if_neg (show ¬ presNm = basicNm by decide), if_neg (show ¬ presNm = awayNm by decide), if_neg (show ¬ presNm = busyNm by decide), if_neg (show ¬ presNm = noteNm by decide), if_neg (show ¬ presNm = contNm by decide)]
    have s2 : upM S 2 = { dPr with sender := p.sender } := by
      show stepM S 1 (upM S 1) = _
      unfold stepM
      rw [g1, s1]
      simp only [show (elemI 1 pidfSp tupleNm [⟨idNm, tT⟩]).name = tupleNm from rfl]
      rw [if_neg (show ¬ tupleNm = basicNm by decide), if_neg (show ¬ tupleNm = awayNm by decide), if_neg (show ¬ tupleNm = busyNm by decide), if_neg (show ¬ tupleNm = noteNm by decide), if_neg (show ¬ tupleNm = contNm by decide)]
    have s3 : upM S 3 = { dPr with sender := p.sender } := by
      show stepM S 2 (upM S 2) = _
      unfold stepM
      rw [g2, s2]
      simp only [show (elemI 2 pidfSp stNm []).name = stNm from rfl]
      rw [if_neg (show ¬ stNm = basicNm by decide), if_neg (show ¬ stNm = awayNm by decide), if_neg (show ¬ stNm = busyNm by decide), if_neg (show ¬ stNm = noteNm by decide), if_neg (show ¬ stNm = contNm by decide)]
    have s4 : upM S 4 = { dPr with sender := p.sender, kind := p.kind } := by
      show stepM S 3 (upM S 3) = _
      unfold stepM
      rw [g3, if_pos (show (elemI 3 pidfSp basicNm []).name = basicNm from rfl), t3, s3]
      rcases h.kd with hk | hk
      · rw [hk, if_neg (by decide)]; rfl
      · rw [hk, if_pos (by decide)]
    have s5 : upM S 5 = { dPr with sender := p.sender, kind := p.kind } := by
      show stepM S 4 (upM S 4) = _
      unfold stepM
      rw [g4, s4]
      simp only [show (textI 4 (basicW p.kind)).name = (⟨#[]⟩ : ByteArray) from rfl]
      rw [if_neg (show ¬ (⟨#[]⟩ : ByteArray) = basicNm by decide), if_neg (show ¬ (⟨#[]⟩ : ByteArray) = awayNm by decide), if_neg (show ¬ (⟨#[]⟩ : ByteArray) = busyNm by decide), if_neg (show ¬ (⟨#[]⟩ : ByteArray) = noteNm by decide), if_neg (show ¬ (⟨#[]⟩ : ByteArray) = contNm by decide)]
    have s6 : upM S 6 = { dPr with sender := p.sender, kind := p.kind, status := p.status } := by
      show stepM S 5 (upM S 5) = _
      unfold stepM
      rw [g5, if_neg (show ¬ (elemI 2 pidfSp noteNm []).name = basicNm by decide), if_neg (show ¬ (elemI 2 pidfSp noteNm []).name = awayNm by decide), if_neg (show ¬ (elemI 2 pidfSp noteNm []).name = busyNm by decide), if_pos (show (elemI 2 pidfSp noteNm []).name = noteNm from rfl), t5, s5]
    have s7 : upM S 7 = { dPr with sender := p.sender, kind := p.kind, status := p.status } := by
      show stepM S 6 (upM S 6) = _
      unfold stepM
      rw [g6, s6]
      simp only [show (textI 3 p.status).name = (⟨#[]⟩ : ByteArray) from rfl]
      rw [if_neg (show ¬ (⟨#[]⟩ : ByteArray) = basicNm by decide), if_neg (show ¬ (⟨#[]⟩ : ByteArray) = awayNm by decide), if_neg (show ¬ (⟨#[]⟩ : ByteArray) = busyNm by decide), if_neg (show ¬ (⟨#[]⟩ : ByteArray) = noteNm by decide), if_neg (show ¬ (⟨#[]⟩ : ByteArray) = contNm by decide)]
    rw [s7]
    obtain ⟨qk, qf, qt, qs, qu, qp, qm⟩ := p
    have e1 := h.gl
    have e2 := h.mo
    dsimp only at e1 e2
    subst e1
    subst e2
    obtain rfl : qs = 0 := ha
    obtain rfl : qp = 0 := hc
    rfl
  · have hst : guessP S = upP S 6 := by
      have n0 : isNote S 0 = false := decide_eq_false (by rw [g0]; show ¬ presNm = noteNm; decide)
      have n1 : isNote S 1 = false := decide_eq_false (by rw [g1]; show ¬ tupleNm = noteNm; decide)
      have n2 : isNote S 2 = false := decide_eq_false (by rw [g2]; show ¬ stNm = noteNm; decide)
      have n3 : isNote S 3 = false := decide_eq_false (by rw [g3]; show ¬ basicNm = noteNm; decide)
      have n4 : isNote S 4 = false := decide_eq_false (by rw [g4]; show ¬ (⟨#[]⟩ : ByteArray) = noteNm; decide)
      refine guessP_note (by omega) (fun j hj => ?_) (decide_eq_true (by rw [g5]; rfl))
      match j, hj with
      | 0, _ => exact n0
      | 1, _ => exact n1
      | 2, _ => exact n2
      | 3, _ => exact n3
      | 4, _ => exact n4
    rw [hst]
    have s0 : upP S 0 = { dPr with sender := p.sender } := by
      show startP S = _
      unfold startP
      rw [g0, v0, off_pres]
    have s1 : upP S 1 = { dPr with sender := p.sender } := by
      show stepP S 0 (upP S 0) = _
      unfold stepP
      rw [g0, s0]
      simp only [show (rootP8 p.sender).name = presNm from rfl]
      rw [if_neg (show ¬ presNm = basicNm by decide), if_neg (show ¬ presNm = actNm by decide), if_neg (show ¬ presNm = contNm by decide), if_neg (show ¬ presNm = noteNm by decide)]
    have s2 : upP S 2 = { dPr with sender := p.sender } := by
      show stepP S 1 (upP S 1) = _
      unfold stepP
      rw [g1, s1]
      simp only [show (elemI 1 pidfSp tupleNm [⟨idNm, tT⟩]).name = tupleNm from rfl]
      rw [if_neg (show ¬ tupleNm = basicNm by decide), if_neg (show ¬ tupleNm = actNm by decide), if_neg (show ¬ tupleNm = contNm by decide), if_neg (show ¬ tupleNm = noteNm by decide)]
    have s3 : upP S 3 = { dPr with sender := p.sender } := by
      show stepP S 2 (upP S 2) = _
      unfold stepP
      rw [g2, s2]
      simp only [show (elemI 2 pidfSp stNm []).name = stNm from rfl]
      rw [if_neg (show ¬ stNm = basicNm by decide), if_neg (show ¬ stNm = actNm by decide), if_neg (show ¬ stNm = contNm by decide), if_neg (show ¬ stNm = noteNm by decide)]
    have s4 : upP S 4 = { dPr with sender := p.sender, kind := p.kind } := by
      show stepP S 3 (upP S 3) = _
      unfold stepP
      rw [g3, if_pos (show (elemI 3 pidfSp basicNm []).name = basicNm from rfl), t3, s3]
      rcases h.kd with hk | hk
      · rw [hk, show hasIx basicWs (basicW 0) = 0 by decide +kernel]
      · rw [hk, show hasIx basicWs (basicW 1) = 1 by decide +kernel]
    have s5 : upP S 5 = { dPr with sender := p.sender, kind := p.kind } := by
      show stepP S 4 (upP S 4) = _
      unfold stepP
      rw [g4, s4]
      simp only [show (textI 4 (basicW p.kind)).name = (⟨#[]⟩ : ByteArray) from rfl]
      rw [if_neg (show ¬ (⟨#[]⟩ : ByteArray) = basicNm by decide), if_neg (show ¬ (⟨#[]⟩ : ByteArray) = actNm by decide), if_neg (show ¬ (⟨#[]⟩ : ByteArray) = contNm by decide), if_neg (show ¬ (⟨#[]⟩ : ByteArray) = noteNm by decide)]
    have s6 : upP S 6 = { dPr with sender := p.sender, kind := p.kind, status := p.status } := by
      show stepP S 5 (upP S 5) = _
      unfold stepP
      rw [g5, if_neg (show ¬ (elemI 2 pidfSp noteNm []).name = basicNm by decide), if_neg (show ¬ (elemI 2 pidfSp noteNm []).name = actNm by decide), if_neg (show ¬ (elemI 2 pidfSp noteNm []).name = contNm by decide), if_pos (show (elemI 2 pidfSp noteNm []).name = noteNm from rfl), t5, s5]
    rw [s6]
    obtain ⟨qk, qf, qt, qs, qu, qp, qm⟩ := p
    have e1 := h.gl
    have e2 := h.mo
    dsimp only at e1 e2
    subst e1
    subst e2
    obtain rfl : qs = 0 := ha
    obtain rfl : qp = 0 := hc
    rfl
theorem guess_010 {p : Pr} (h : OwnPr p) (hR : Rises (pidfL p)) (ha : p.shown = 0) (hc : p.prio ≠ 0) (hn : p.status.toList.isEmpty = true) : guessM (pidfL p) = p ∧ guessP (pidfL p) = p := by
  have e := pidf_010 ha hc hn
  obtain ⟨S, hS⟩ : ∃ S, pidfL p = S := ⟨_, rfl⟩
  rw [hS] at e hR ⊢
  have hl : S.length = 7 := by rw [e]; rfl
  have g0 : S.getD 0 dIt = rootP8 p.sender := by rw [e]; rfl
  have g1 : S.getD 1 dIt = elemI 1 pidfSp tupleNm [⟨idNm, tT⟩] := by rw [e]; rfl
  have g2 : S.getD 2 dIt = elemI 2 pidfSp stNm [] := by rw [e]; rfl
  have g3 : S.getD 3 dIt = elemI 3 pidfSp basicNm [] := by rw [e]; rfl
  have g4 : S.getD 4 dIt = textI 4 (basicW p.kind) := by rw [e]; rfl
  have g5 : S.getD 5 dIt = elemI 2 pidfSp contNm [⟨prioKey, shareText (thouVal p.prio)⟩] := by rw [e]; rfl
  have g6 : S.getD 6 dIt = textI 3 (xmppP ++ p.sender) := by rw [e]; rfl
  have d0 : dp S 0 = 0 := by unfold dp; rw [g0]; rfl
  have d1 : dp S 1 = 1 := by unfold dp; rw [g1]; rfl
  have d2 : dp S 2 = 2 := by unfold dp; rw [g2]; rfl
  have d3 : dp S 3 = 3 := by unfold dp; rw [g3]; rfl
  have d4 : dp S 4 = 4 := by unfold dp; rw [g4]; rfl
  have d5 : dp S 5 = 2 := by unfold dp; rw [g5]; rfl
  have d6 : dp S 6 = 3 := by unfold dp; rw [g6]; rfl
  have t3 : txtT (textL S 3) = basicW p.kind := by rw [text_one (by omega) (by rw [d4, d3]; rfl) (.inr (by rw [d5, d3]; decide)) (by rw [g4]; rfl), g4]; rfl
  have v0 : valT (valueL (rootP8 p.sender).attrs entityNm) = presP ++ p.sender := by
    unfold valueL rootP8 elemI
    rw [List.find?_cons_of_pos (by simp)]
    rfl
  have vc : valT (valueL (elemI 2 pidfSp contNm [⟨prioKey, shareText (thouVal p.prio)⟩]).attrs prioKey) = shareText (thouVal p.prio) := by
    unfold valueL elemI
    rw [List.find?_cons_of_pos (by simp)]
    rfl
  obtain ⟨pk, hpk⟩ : ∃ k : Nat, p.prio = (k : Int) := ⟨p.prio.toNat, by have := h.pr.1; omega⟩
  have hk127 : pk ≤ 127 := by have := h.pr.2; omega
  have b1 : prioVal (read8 (shareText (thouVal p.prio))) = p.prio := by rw [hpk]; exact share_back pk hk127
  have b2 : prioWith (shareText (thouVal p.prio)) = p.prio := by rw [hpk]; exact share_with pk (by omega) hk127
  constructor
  · unfold guessM
    rw [hl]
    have s0 : upM S 0 = { dPr with sender := p.sender } := by
      show startM S = _
      unfold startM
      rw [g0, v0, behind_pres _ h.sz]
    have s1 : upM S 1 = { dPr with sender := p.sender } := by
      show stepM S 0 (upM S 0) = _
      unfold stepM
      rw [g0, s0]
      simp only [show (rootP8 p.sender).name = presNm from rfl]
      rw [if_neg (show ¬ presNm = basicNm by decide), if_neg (show ¬ presNm = awayNm by decide), if_neg (show ¬ presNm = busyNm by decide), if_neg (show ¬ presNm = noteNm by decide), if_neg (show ¬ presNm = contNm by decide)]
    have s2 : upM S 2 = { dPr with sender := p.sender } := by
      show stepM S 1 (upM S 1) = _
      unfold stepM
      rw [g1, s1]
      simp only [show (elemI 1 pidfSp tupleNm [⟨idNm, tT⟩]).name = tupleNm from rfl]
      rw [if_neg (show ¬ tupleNm = basicNm by decide), if_neg (show ¬ tupleNm = awayNm by decide), if_neg (show ¬ tupleNm = busyNm by decide), if_neg (show ¬ tupleNm = noteNm by decide), if_neg (show ¬ tupleNm = contNm by decide)]
    have s3 : upM S 3 = { dPr with sender := p.sender } := by
      show stepM S 2 (upM S 2) = _
      unfold stepM
      rw [g2, s2]
      simp only [show (elemI 2 pidfSp stNm []).name = stNm from rfl]
      rw [if_neg (show ¬ stNm = basicNm by decide), if_neg (show ¬ stNm = awayNm by decide), if_neg (show ¬ stNm = busyNm by decide), if_neg (show ¬ stNm = noteNm by decide), if_neg (show ¬ stNm = contNm by decide)]
    have s4 : upM S 4 = { dPr with sender := p.sender, kind := p.kind } := by
      show stepM S 3 (upM S 3) = _
      unfold stepM
      rw [g3, if_pos (show (elemI 3 pidfSp basicNm []).name = basicNm from rfl), t3, s3]
      rcases h.kd with hk | hk
      · rw [hk, if_neg (by decide)]; rfl
      · rw [hk, if_pos (by decide)]
    have s5 : upM S 5 = { dPr with sender := p.sender, kind := p.kind } := by
      show stepM S 4 (upM S 4) = _
      unfold stepM
      rw [g4, s4]
      simp only [show (textI 4 (basicW p.kind)).name = (⟨#[]⟩ : ByteArray) from rfl]
      rw [if_neg (show ¬ (⟨#[]⟩ : ByteArray) = basicNm by decide), if_neg (show ¬ (⟨#[]⟩ : ByteArray) = awayNm by decide), if_neg (show ¬ (⟨#[]⟩ : ByteArray) = busyNm by decide), if_neg (show ¬ (⟨#[]⟩ : ByteArray) = noteNm by decide), if_neg (show ¬ (⟨#[]⟩ : ByteArray) = contNm by decide)]
    have s6 : upM S 6 = { dPr with sender := p.sender, kind := p.kind, prio := p.prio } := by
      show stepM S 5 (upM S 5) = _
      unfold stepM
      rw [g5, if_neg (show ¬ (elemI 2 pidfSp contNm [⟨prioKey, shareText (thouVal p.prio)⟩]).name = basicNm by show ¬ contNm = basicNm; decide), if_neg (show ¬ (elemI 2 pidfSp contNm [⟨prioKey, shareText (thouVal p.prio)⟩]).name = awayNm by show ¬ contNm = awayNm; decide), if_neg (show ¬ (elemI 2 pidfSp contNm [⟨prioKey, shareText (thouVal p.prio)⟩]).name = busyNm by show ¬ contNm = busyNm; decide), if_neg (show ¬ (elemI 2 pidfSp contNm [⟨prioKey, shareText (thouVal p.prio)⟩]).name = noteNm by show ¬ contNm = noteNm; decide), if_pos (show (elemI 2 pidfSp contNm [⟨prioKey, shareText (thouVal p.prio)⟩]).name = contNm from rfl), vc, b1, s5]
    have s7 : upM S 7 = { dPr with sender := p.sender, kind := p.kind, prio := p.prio } := by
      show stepM S 6 (upM S 6) = _
      unfold stepM
      rw [g6, s6]
      simp only [show (textI 3 (xmppP ++ p.sender)).name = (⟨#[]⟩ : ByteArray) from rfl]
      rw [if_neg (show ¬ (⟨#[]⟩ : ByteArray) = basicNm by decide), if_neg (show ¬ (⟨#[]⟩ : ByteArray) = awayNm by decide), if_neg (show ¬ (⟨#[]⟩ : ByteArray) = busyNm by decide), if_neg (show ¬ (⟨#[]⟩ : ByteArray) = noteNm by decide), if_neg (show ¬ (⟨#[]⟩ : ByteArray) = contNm by decide)]
    rw [s7]
    obtain ⟨qk, qf, qt, qs, qu, qp, qm⟩ := p
    have e1 := h.gl
    have e2 := h.mo
    dsimp only at e1 e2
    subst e1
    subst e2
    obtain rfl : qs = 0 := ha
    obtain rfl := empty_of hn
    rfl
  · have hst : guessP S = upP S 7 := by
      have n0 : isNote S 0 = false := decide_eq_false (by rw [g0]; show ¬ presNm = noteNm; decide)
      have n1 : isNote S 1 = false := decide_eq_false (by rw [g1]; show ¬ tupleNm = noteNm; decide)
      have n2 : isNote S 2 = false := decide_eq_false (by rw [g2]; show ¬ stNm = noteNm; decide)
      have n3 : isNote S 3 = false := decide_eq_false (by rw [g3]; show ¬ basicNm = noteNm; decide)
      have n4 : isNote S 4 = false := decide_eq_false (by rw [g4]; show ¬ (⟨#[]⟩ : ByteArray) = noteNm; decide)
      have n5 : isNote S 5 = false := decide_eq_false (by rw [g5]; show ¬ contNm = noteNm; decide)
      have n6 : isNote S 6 = false := decide_eq_false (by rw [g6]; show ¬ (⟨#[]⟩ : ByteArray) = noteNm; decide)
      rw [guessP_none (fun j hj => ?_), hl]
      rw [hl] at hj
      match j, hj with
      | 0, _ => exact n0
      | 1, _ => exact n1
      | 2, _ => exact n2
      | 3, _ => exact n3
      | 4, _ => exact n4
      | 5, _ => exact n5
      | 6, _ => exact n6
    rw [hst]
    have s0 : upP S 0 = { dPr with sender := p.sender } := by
      show startP S = _
      unfold startP
      rw [g0, v0, off_pres]
    have s1 : upP S 1 = { dPr with sender := p.sender } := by
      show stepP S 0 (upP S 0) = _
      unfold stepP
      rw [g0, s0]
      simp only [show (rootP8 p.sender).name = presNm from rfl]
      rw [if_neg (show ¬ presNm = basicNm by decide), if_neg (show ¬ presNm = actNm by decide), if_neg (show ¬ presNm = contNm by decide), if_neg (show ¬ presNm = noteNm by decide)]
    have s2 : upP S 2 = { dPr with sender := p.sender } := by
      show stepP S 1 (upP S 1) = _
      unfold stepP
      rw [g1, s1]
      simp only [show (elemI 1 pidfSp tupleNm [⟨idNm, tT⟩]).name = tupleNm from rfl]
      rw [if_neg (show ¬ tupleNm = basicNm by decide), if_neg (show ¬ tupleNm = actNm by decide), if_neg (show ¬ tupleNm = contNm by decide), if_neg (show ¬ tupleNm = noteNm by decide)]
    have s3 : upP S 3 = { dPr with sender := p.sender } := by
      show stepP S 2 (upP S 2) = _
      unfold stepP
      rw [g2, s2]
      simp only [show (elemI 2 pidfSp stNm []).name = stNm from rfl]
      rw [if_neg (show ¬ stNm = basicNm by decide), if_neg (show ¬ stNm = actNm by decide), if_neg (show ¬ stNm = contNm by decide), if_neg (show ¬ stNm = noteNm by decide)]
    have s4 : upP S 4 = { dPr with sender := p.sender, kind := p.kind } := by
      show stepP S 3 (upP S 3) = _
      unfold stepP
      rw [g3, if_pos (show (elemI 3 pidfSp basicNm []).name = basicNm from rfl), t3, s3]
      rcases h.kd with hk | hk
      · rw [hk, show hasIx basicWs (basicW 0) = 0 by decide +kernel]
      · rw [hk, show hasIx basicWs (basicW 1) = 1 by decide +kernel]
    have s5 : upP S 5 = { dPr with sender := p.sender, kind := p.kind } := by
      show stepP S 4 (upP S 4) = _
      unfold stepP
      rw [g4, s4]
      simp only [show (textI 4 (basicW p.kind)).name = (⟨#[]⟩ : ByteArray) from rfl]
      rw [if_neg (show ¬ (⟨#[]⟩ : ByteArray) = basicNm by decide), if_neg (show ¬ (⟨#[]⟩ : ByteArray) = actNm by decide), if_neg (show ¬ (⟨#[]⟩ : ByteArray) = contNm by decide), if_neg (show ¬ (⟨#[]⟩ : ByteArray) = noteNm by decide)]
    have s6 : upP S 6 = { dPr with sender := p.sender, kind := p.kind, prio := p.prio } := by
      show stepP S 5 (upP S 5) = _
      unfold stepP
      rw [g5, if_neg (show ¬ (elemI 2 pidfSp contNm [⟨prioKey, shareText (thouVal p.prio)⟩]).name = basicNm by show ¬ contNm = basicNm; decide), if_neg (show ¬ (elemI 2 pidfSp contNm [⟨prioKey, shareText (thouVal p.prio)⟩]).name = actNm by show ¬ contNm = actNm; decide), if_pos (show (elemI 2 pidfSp contNm [⟨prioKey, shareText (thouVal p.prio)⟩]).name = contNm from rfl), vc, b2, s5]
    have s7 : upP S 7 = { dPr with sender := p.sender, kind := p.kind, prio := p.prio } := by
      show stepP S 6 (upP S 6) = _
      unfold stepP
      rw [g6, s6]
      simp only [show (textI 3 (xmppP ++ p.sender)).name = (⟨#[]⟩ : ByteArray) from rfl]
      rw [if_neg (show ¬ (⟨#[]⟩ : ByteArray) = basicNm by decide), if_neg (show ¬ (⟨#[]⟩ : ByteArray) = actNm by decide), if_neg (show ¬ (⟨#[]⟩ : ByteArray) = contNm by decide), if_neg (show ¬ (⟨#[]⟩ : ByteArray) = noteNm by decide)]
    rw [s7]
    obtain ⟨qk, qf, qt, qs, qu, qp, qm⟩ := p
    have e1 := h.gl
    have e2 := h.mo
    dsimp only at e1 e2
    subst e1
    subst e2
    obtain rfl : qs = 0 := ha
    obtain rfl := empty_of hn
    rfl
theorem guess_011 {p : Pr} (h : OwnPr p) (hR : Rises (pidfL p)) (ha : p.shown = 0) (hc : p.prio ≠ 0) (hn : p.status.toList.isEmpty = false) : guessM (pidfL p) = p ∧ guessP (pidfL p) = p := by
  have e := pidf_011 ha hc hn
  obtain ⟨S, hS⟩ : ∃ S, pidfL p = S := ⟨_, rfl⟩
  rw [hS] at e hR ⊢
  have hl : S.length = 9 := by rw [e]; rfl
  have g0 : S.getD 0 dIt = rootP8 p.sender := by rw [e]; rfl
  have g1 : S.getD 1 dIt = elemI 1 pidfSp tupleNm [⟨idNm, tT⟩] := by rw [e]; rfl
  have g2 : S.getD 2 dIt = elemI 2 pidfSp stNm [] := by rw [e]; rfl
  have g3 : S.getD 3 dIt = elemI 3 pidfSp basicNm [] := by rw [e]; rfl
  have g4 : S.getD 4 dIt = textI 4 (basicW p.kind) := by rw [e]; rfl
  have g5 : S.getD 5 dIt = elemI 2 pidfSp contNm [⟨prioKey, shareText (thouVal p.prio)⟩] := by rw [e]; rfl
  have g6 : S.getD 6 dIt = textI 3 (xmppP ++ p.sender) := by rw [e]; rfl
  have g7 : S.getD 7 dIt = elemI 2 pidfSp noteNm [] := by rw [e]; rfl
  have g8 : S.getD 8 dIt = textI 3 p.status := by rw [e]; rfl
  have d0 : dp S 0 = 0 := by unfold dp; rw [g0]; rfl
  have d1 : dp S 1 = 1 := by unfold dp; rw [g1]; rfl
  have d2 : dp S 2 = 2 := by unfold dp; rw [g2]; rfl
  have d3 : dp S 3 = 3 := by unfold dp; rw [g3]; rfl
  have d4 : dp S 4 = 4 := by unfold dp; rw [g4]; rfl
  have d5 : dp S 5 = 2 := by unfold dp; rw [g5]; rfl
  have d6 : dp S 6 = 3 := by unfold dp; rw [g6]; rfl
  have d7 : dp S 7 = 2 := by unfold dp; rw [g7]; rfl
  have d8 : dp S 8 = 3 := by unfold dp; rw [g8]; rfl
  have t3 : txtT (textL S 3) = basicW p.kind := by rw [text_one (by omega) (by rw [d4, d3]; rfl) (.inr (by rw [d5, d3]; decide)) (by rw [g4]; rfl), g4]; rfl
  have t7 : txtT (textL S 7) = p.status := by rw [text_one (by omega) (by rw [d8, d7]; rfl) (.inl (by rw [hl])) (by rw [g8]; rfl), g8]; rfl
  have v0 : valT (valueL (rootP8 p.sender).attrs entityNm) = presP ++ p.sender := by
    unfold valueL rootP8 elemI
    rw [List.find?_cons_of_pos (by simp)]
    rfl
  have vc : valT (valueL (elemI 2 pidfSp contNm [⟨prioKey, shareText (thouVal p.prio)⟩]).attrs prioKey) = shareText (thouVal p.prio) := by
    unfold valueL elemI
    rw [List.find?_cons_of_pos (by simp)]
    rfl
  obtain ⟨pk, hpk⟩ : ∃ k : Nat, p.prio = (k : Int) := ⟨p.prio.toNat, by have := h.pr.1; omega⟩
  have hk127 : pk ≤ 127 := by have := h.pr.2; omega
  have b1 : prioVal (read8 (shareText (thouVal p.prio))) = p.prio := by rw [hpk]; exact share_back pk hk127
  have b2 : prioWith (shareText (thouVal p.prio)) = p.prio := by rw [hpk]; exact share_with pk (by omega) hk127
  constructor
  · unfold guessM
    rw [hl]
    have s0 : upM S 0 = { dPr with sender := p.sender } := by
      show startM S = _
      unfold startM
      rw [g0, v0, behind_pres _ h.sz]
    have s1 : upM S 1 = { dPr with sender := p.sender } := by
      show stepM S 0 (upM S 0) = _
      unfold stepM
      rw [g0, s0]
      simp only [show (rootP8 p.sender).name = presNm from rfl]
      rw [if_neg (show ¬ presNm = basicNm by decide), if_neg (show ¬ presNm = awayNm by decide), if_neg (show ¬ presNm = busyNm by decide), if_neg (show ¬ presNm = noteNm by decide), if_neg (show ¬ presNm = contNm by decide)]
    have s2 : upM S 2 = { dPr with sender := p.sender } := by
      show stepM S 1 (upM S 1) = _
      unfold stepM
      rw [g1, s1]
      simp only [show (elemI 1 pidfSp tupleNm [⟨idNm, tT⟩]).name = tupleNm from rfl]
      rw [if_neg (show ¬ tupleNm = basicNm by decide), if_neg (show ¬ tupleNm = awayNm by decide), if_neg (show ¬ tupleNm = busyNm by decide), if_neg (show ¬ tupleNm = noteNm by decide), if_neg (show ¬ tupleNm = contNm by decide)]
    have s3 : upM S 3 = { dPr with sender := p.sender } := by
      show stepM S 2 (upM S 2) = _
      unfold stepM
      rw [g2, s2]
      simp only [show (elemI 2 pidfSp stNm []).name = stNm from rfl]
      rw [if_neg (show ¬ stNm = basicNm by decide), if_neg (show ¬ stNm = awayNm by decide), if_neg (show ¬ stNm = busyNm by decide), if_neg (show ¬ stNm = noteNm by decide), if_neg (show ¬ stNm = contNm by decide)]
    have s4 : upM S 4 = { dPr with sender := p.sender, kind := p.kind } := by
      show stepM S 3 (upM S 3) = _
      unfold stepM
      rw [g3, if_pos (show (elemI 3 pidfSp basicNm []).name = basicNm from rfl), t3, s3]
      rcases h.kd with hk | hk
      · rw [hk, if_neg (by decide)]; rfl
      · rw [hk, if_pos (by decide)]
    have s5 : upM S 5 = { dPr with sender := p.sender, kind := p.kind } := by
      show stepM S 4 (upM S 4) = _
      unfold stepM
      rw [g4, s4]
      simp only [show (textI 4 (basicW p.kind)).name = (⟨#[]⟩ : ByteArray) from rfl]
      rw [if_neg (show ¬ (⟨#[]⟩ : ByteArray) = basicNm by decide), if_neg (show ¬ (⟨#[]⟩ : ByteArray) = awayNm by decide), if_neg (show ¬ (⟨#[]⟩ : ByteArray) = busyNm by decide), if_neg (show ¬ (⟨#[]⟩ : ByteArray) = noteNm by decide), if_neg (show ¬ (⟨#[]⟩ : ByteArray) = contNm by decide)]
    have s6 : upM S 6 = { dPr with sender := p.sender, kind := p.kind, prio := p.prio } := by
      show stepM S 5 (upM S 5) = _
      unfold stepM
      rw [g5, if_neg (show ¬ (elemI 2 pidfSp contNm [⟨prioKey, shareText (thouVal p.prio)⟩]).name = basicNm by show ¬ contNm = basicNm; decide), if_neg (show ¬ (elemI 2 pidfSp contNm [⟨prioKey, shareText (thouVal p.prio)⟩]).name = awayNm by show ¬ contNm = awayNm; decide), if_neg (show ¬ (elemI 2 pidfSp contNm [⟨prioKey, shareText (thouVal p.prio)⟩]).name = busyNm by show ¬ contNm = busyNm; decide), if_neg (show ¬ (elemI 2 pidfSp contNm [⟨prioKey, shareText (thouVal p.prio)⟩]).name = noteNm by show ¬ contNm = noteNm; decide), if_pos (show (elemI 2 pidfSp contNm [⟨prioKey, shareText (thouVal p.prio)⟩]).name = contNm from rfl), vc, b1, s5]
    have s7 : upM S 7 = { dPr with sender := p.sender, kind := p.kind, prio := p.prio } := by
      show stepM S 6 (upM S 6) = _
      unfold stepM
      rw [g6, s6]
      simp only [show (textI 3 (xmppP ++ p.sender)).name = (⟨#[]⟩ : ByteArray) from rfl]
      rw [if_neg (show ¬ (⟨#[]⟩ : ByteArray) = basicNm by decide), if_neg (show ¬ (⟨#[]⟩ : ByteArray) = awayNm by decide), if_neg (show ¬ (⟨#[]⟩ : ByteArray) = busyNm by decide), if_neg (show ¬ (⟨#[]⟩ : ByteArray) = noteNm by decide), if_neg (show ¬ (⟨#[]⟩ : ByteArray) = contNm by decide)]
    have s8 : upM S 8 = { dPr with sender := p.sender, kind := p.kind, prio := p.prio, status := p.status } := by
      show stepM S 7 (upM S 7) = _
      unfold stepM
      rw [g7, if_neg (show ¬ (elemI 2 pidfSp noteNm []).name = basicNm by decide), if_neg (show ¬ (elemI 2 pidfSp noteNm []).name = awayNm by decide), if_neg (show ¬ (elemI 2 pidfSp noteNm []).name = busyNm by decide), if_pos (show (elemI 2 pidfSp noteNm []).name = noteNm from rfl), t7, s7]
    have s9 : upM S 9 = { dPr with sender := p.sender, kind := p.kind, prio := p.prio, status := p.status } := by
      show stepM S 8 (upM S 8) = _
      unfold stepM
      rw [g8, s8]
      simp only [show (textI 3 p.status).name = (⟨#[]⟩ : ByteArray) from rfl]
      rw [if_neg (show ¬ (⟨#[]⟩ : ByteArray) = basicNm by decide), if_neg (show ¬ (⟨#[]⟩ : ByteArray) = awayNm by decide), if_neg (show ¬ (⟨#[]⟩ : ByteArray) = busyNm by decide), if_neg (show ¬ (⟨#[]⟩ : ByteArray) = noteNm by decide), if_neg (show ¬ (⟨#[]⟩ : ByteArray) = contNm by decide)]
    rw [s9]
    obtain ⟨qk, qf, qt, qs, qu, qp, qm⟩ := p
    have e1 := h.gl
    have e2 := h.mo
    dsimp only at e1 e2
    subst e1
    subst e2
    obtain rfl : qs = 0 := ha
    rfl
  · have hst : guessP S = upP S 8 := by
      have n0 : isNote S 0 = false := decide_eq_false (by rw [g0]; show ¬ presNm = noteNm; decide)
      have n1 : isNote S 1 = false := decide_eq_false (by rw [g1]; show ¬ tupleNm = noteNm; decide)
      have n2 : isNote S 2 = false := decide_eq_false (by rw [g2]; show ¬ stNm = noteNm; decide)
      have n3 : isNote S 3 = false := decide_eq_false (by rw [g3]; show ¬ basicNm = noteNm; decide)
      have n4 : isNote S 4 = false := decide_eq_false (by rw [g4]; show ¬ (⟨#[]⟩ : ByteArray) = noteNm; decide)
      have n5 : isNote S 5 = false := decide_eq_false (by rw [g5]; show ¬ contNm = noteNm; decide)
      have n6 : isNote S 6 = false := decide_eq_false (by rw [g6]; show ¬ (⟨#[]⟩ : ByteArray) = noteNm; decide)
      refine guessP_note (by omega) (fun j hj => ?_) (decide_eq_true (by rw [g7]; rfl))
      match j, hj with
      | 0, _ => exact n0
      | 1, _ => exact n1
      | 2, _ => exact n2
      | 3, _ => exact n3
      | 4, _ => exact n4
      | 5, _ => exact n5
      | 6, _ => exact n6
    rw [hst]
    have s0 : upP S 0 = { dPr with sender := p.sender } := by
      show startP S = _
      unfold startP
      rw [g0, v0, off_pres]
    have s1 : upP S 1 = { dPr with sender := p.sender } := by
      show stepP S 0 (upP S 0) = _
      unfold stepP
      rw [g0, s0]
      simp only [show (rootP8 p.sender).name = presNm from rfl]
      rw [if_neg (show ¬ presNm = basicNm by decide), if_neg (show ¬ presNm = actNm by decide), if_neg (show ¬ presNm = contNm by decide), if_neg (show ¬ presNm = noteNm by decide)]
    have s2 : upP S 2 = { dPr with sender := p.sender } := by
      show stepP S 1 (upP S 1) = _
      unfold stepP
      rw [g1, s1]
      simp only [show (elemI 1 pidfSp tupleNm [⟨idNm, tT⟩]).name = tupleNm from rfl]
      rw [if_neg (show ¬ tupleNm = basicNm by decide), if_neg (show ¬ tupleNm = actNm by decide), if_neg (show ¬ tupleNm = contNm by decide), if_neg (show ¬ tupleNm = noteNm by decide)]
    have s3 : upP S 3 = { dPr with sender := p.sender } := by
      show stepP S 2 (upP S 2) = _
      unfold stepP
      rw [g2, s2]
      simp only [show (elemI 2 pidfSp stNm []).name = stNm from rfl]
      rw [if_neg (show ¬ stNm = basicNm by decide), if_neg (show ¬ stNm = actNm by decide), if_neg (show ¬ stNm = contNm by decide), if_neg (show ¬ stNm = noteNm by decide)]
    have s4 : upP S 4 = { dPr with sender := p.sender, kind := p.kind } := by
      show stepP S 3 (upP S 3) = _
      unfold stepP
      rw [g3, if_pos (show (elemI 3 pidfSp basicNm []).name = basicNm from rfl), t3, s3]
      rcases h.kd with hk | hk
      · rw [hk, show hasIx basicWs (basicW 0) = 0 by decide +kernel]
      · rw [hk, show hasIx basicWs (basicW 1) = 1 by decide +kernel]
    have s5 : upP S 5 = { dPr with sender := p.sender, kind := p.kind } := by
      show stepP S 4 (upP S 4) = _
      unfold stepP
      rw [g4, s4]
      simp only [show (textI 4 (basicW p.kind)).name = (⟨#[]⟩ : ByteArray) from rfl]
      rw [if_neg (show ¬ (⟨#[]⟩ : ByteArray) = basicNm by decide), if_neg (show ¬ (⟨#[]⟩ : ByteArray) = actNm by decide), if_neg (show ¬ (⟨#[]⟩ : ByteArray) = contNm by decide), if_neg (show ¬ (⟨#[]⟩ : ByteArray) = noteNm by decide)]
    have s6 : upP S 6 = { dPr with sender := p.sender, kind := p.kind, prio := p.prio } := by
      show stepP S 5 (upP S 5) = _
      unfold stepP
      rw [g5, if_neg (show ¬ (elemI 2 pidfSp contNm [⟨prioKey, shareText (thouVal p.prio)⟩]).name = basicNm by show ¬ contNm = basicNm; decide), if_neg (show ¬ (elemI 2 pidfSp contNm [⟨prioKey, shareText (thouVal p.prio)⟩]).name = actNm by show ¬ contNm = actNm; decide), if_pos (show (elemI 2 pidfSp contNm [⟨prioKey, shareText (thouVal p.prio)⟩]).name = contNm from rfl), vc, b2, s5]
    have s7 : upP S 7 = { dPr with sender := p.sender, kind := p.kind, prio := p.prio } := by
      show stepP S 6 (upP S 6) = _
      unfold stepP
      rw [g6, s6]
      simp only [show (textI 3 (xmppP ++ p.sender)).name = (⟨#[]⟩ : ByteArray) from rfl]
      rw [if_neg (show ¬ (⟨#[]⟩ : ByteArray) = basicNm by decide), if_neg (show ¬ (⟨#[]⟩ : ByteArray) = actNm by decide), if_neg (show ¬ (⟨#[]⟩ : ByteArray) = contNm by decide), if_neg (show ¬ (⟨#[]⟩ : ByteArray) = noteNm by decide)]
    have s8 : upP S 8 = { dPr with sender := p.sender, kind := p.kind, prio := p.prio, status := p.status } := by
      show stepP S 7 (upP S 7) = _
      unfold stepP
      rw [g7, if_neg (show ¬ (elemI 2 pidfSp noteNm []).name = basicNm by decide), if_neg (show ¬ (elemI 2 pidfSp noteNm []).name = actNm by decide), if_neg (show ¬ (elemI 2 pidfSp noteNm []).name = contNm by decide), if_pos (show (elemI 2 pidfSp noteNm []).name = noteNm from rfl), t7, s7]
    rw [s8]
    obtain ⟨qk, qf, qt, qs, qu, qp, qm⟩ := p
    have e1 := h.gl
    have e2 := h.mo
    dsimp only at e1 e2
    subst e1
    subst e2
    obtain rfl : qs = 0 := ha
    rfl
theorem guess_100 {p : Pr} (h : OwnPr p) (hR : Rises (pidfL p)) (ha : p.shown ≠ 0) (hc : p.prio = 0) (hn : p.status.toList.isEmpty = true) : guessM (pidfL p) = p ∧ guessP (pidfL p) = p := by
  have e := pidf_100 ha hc hn
  obtain ⟨S, hS⟩ : ∃ S, pidfL p = S := ⟨_, rfl⟩
  rw [hS] at e hR ⊢
  have hl : S.length = 7 := by rw [e]; rfl
  have g0 : S.getD 0 dIt = rootP8 p.sender := by rw [e]; rfl
  have g1 : S.getD 1 dIt = elemI 1 pidfSp tupleNm [⟨idNm, tT⟩] := by rw [e]; rfl
  have g2 : S.getD 2 dIt = elemI 2 pidfSp stNm [] := by rw [e]; rfl
  have g3 : S.getD 3 dIt = elemI 3 pidfSp basicNm [] := by rw [e]; rfl
  have g4 : S.getD 4 dIt = textI 4 (basicW p.kind) := by rw [e]; rfl
  have g5 : S.getD 5 dIt = elemI 2 rpidSp actNm [] := by rw [e]; rfl
  have g6 : S.getD 6 dIt = elemI 3 rpidSp (actW p.shown) [] := by rw [e]; rfl
  have d0 : dp S 0 = 0 := by unfold dp; rw [g0]; rfl
  have d1 : dp S 1 = 1 := by unfold dp; rw [g1]; rfl
  have d2 : dp S 2 = 2 := by unfold dp; rw [g2]; rfl
  have d3 : dp S 3 = 3 := by unfold dp; rw [g3]; rfl
  have d4 : dp S 4 = 4 := by unfold dp; rw [g4]; rfl
  have d5 : dp S 5 = 2 := by unfold dp; rw [g5]; rfl
  have d6 : dp S 6 = 3 := by unfold dp; rw [g6]; rfl
  have t3 : txtT (textL S 3) = basicW p.kind := by rw [text_one (by omega) (by rw [d4, d3]; rfl) (.inr (by rw [d5, d3]; decide)) (by rw [g4]; rfl), g4]; rfl
  have ax : hasIx actWs (S.getD 6 dIt).name = p.shown := by
    rw [g6]
    show hasIx actWs (actW p.shown) = p.shown
    rcases h.sh with hs | hs | hs
    · exact absurd hs ha
    · rw [hs]; decide +kernel
    · rw [hs]; decide +kernel
  have k5 : showIx S 5 = p.shown := by
    unfold showIx
    rw [kids_one hR (by omega) (by rw [d6, d5]; rfl) (.inl (by rw [hl])), show ([5 + 1] : List Nat).find? (fun k => decide (0 ≤ hasIx actWs (S.getD k dIt).name)) = some 6 from List.find?_cons_of_pos (p := fun k => decide (0 ≤ hasIx actWs (S.getD k dIt).name)) (decide_eq_true (show 0 ≤ hasIx actWs (S.getD 6 dIt).name by rw [ax]; rcases h.sh with hs | hs | hs <;> omega))]
    exact ax
  have v0 : valT (valueL (rootP8 p.sender).attrs entityNm) = presP ++ p.sender := by
    unfold valueL rootP8 elemI
    rw [List.find?_cons_of_pos (by simp)]
    rfl
  constructor
  · unfold guessM
    rw [hl]
    have s0 : upM S 0 = { dPr with sender := p.sender } := by
      show startM S = _
      unfold startM
      rw [g0, v0, behind_pres _ h.sz]
    have s1 : upM S 1 = { dPr with sender := p.sender } := by
      show stepM S 0 (upM S 0) = _
      unfold stepM
      rw [g0, s0]
      simp only [show (rootP8 p.sender).name = presNm from rfl]
      rw [if_neg (show ¬ presNm = basicNm by decide), if_neg (show ¬ presNm = awayNm by decide), if_neg (show ¬ presNm = busyNm by decide), if_neg (show ¬ presNm = noteNm by decide), if_neg (show ¬ presNm = contNm by decide)]
    have s2 : upM S 2 = { dPr with sender := p.sender } := by
      show stepM S 1 (upM S 1) = _
      unfold stepM
      rw [g1, s1]
      simp only [show (elemI 1 pidfSp tupleNm [⟨idNm, tT⟩]).name = tupleNm from rfl]
      rw [if_neg (show ¬ tupleNm = basicNm by decide), if_neg (show ¬ tupleNm = awayNm by decide), if_neg (show ¬ tupleNm = busyNm by decide), if_neg (show ¬ tupleNm = noteNm by decide), if_neg (show ¬ tupleNm = contNm by decide)]
    have s3 : upM S 3 = { dPr with sender := p.sender } := by
      show stepM S 2 (upM S 2) = _
      unfold stepM
      rw [g2, s2]
      simp only [show (elemI 2 pidfSp stNm []).name = stNm from rfl]
      rw [if_neg (show ¬ stNm = basicNm by decide), if_neg (show ¬ stNm = awayNm by decide), if_neg (show ¬ stNm = busyNm by decide), if_neg (show ¬ stNm = noteNm by decide), if_neg (show ¬ stNm = contNm by decide)]
    have s4 : upM S 4 = { dPr with sender := p.sender, kind := p.kind } := by
      show stepM S 3 (upM S 3) = _
      unfold stepM
      rw [g3, if_pos (show (elemI 3 pidfSp basicNm []).name = basicNm from rfl), t3, s3]
      rcases h.kd with hk | hk
      · rw [hk, if_neg (by decide)]; rfl
      · rw [hk, if_pos (by decide)]
    have s5 : upM S 5 = { dPr with sender := p.sender, kind := p.kind } := by
      show stepM S 4 (upM S 4) = _
      unfold stepM
      rw [g4, s4]
      simp only [show (textI 4 (basicW p.kind)).name = (⟨#[]⟩ : ByteArray) from rfl]
      rw [if_neg (show ¬ (⟨#[]⟩ : ByteArray) = basicNm by decide), if_neg (show ¬ (⟨#[]⟩ : ByteArray) = awayNm by decide), if_neg (show ¬ (⟨#[]⟩ : ByteArray) = busyNm by decide), if_neg (show ¬ (⟨#[]⟩ : ByteArray) = noteNm by decide), if_neg (show ¬ (⟨#[]⟩ : ByteArray) = contNm by decide)]
    have s6 : upM S 6 = { dPr with sender := p.sender, kind := p.kind } := by
      show stepM S 5 (upM S 5) = _
      unfold stepM
      rw [g5, s5]
      simp only [show (elemI 2 rpidSp actNm []).name = actNm from rfl]
      rw [if_neg (show ¬ actNm = basicNm by decide), if_neg (show ¬ actNm = awayNm by decide), if_neg (show ¬ actNm = busyNm by decide), if_neg (show ¬ actNm = noteNm by decide), if_neg (show ¬ actNm = contNm by decide)]
    have s7 : upM S 7 = { dPr with sender := p.sender, kind := p.kind, shown := p.shown } := by
      show stepM S 6 (upM S 6) = _
      unfold stepM
      rw [g6, s6]
      rcases h.sh with hs | hs | hs
      · exact absurd hs ha
      · rw [hs, if_neg (by decide), if_pos (by decide)]
      · rw [hs, if_neg (by decide), if_neg (by decide), if_pos (by decide)]
    rw [s7]
    obtain ⟨qk, qf, qt, qs, qu, qp, qm⟩ := p
    have e1 := h.gl
    have e2 := h.mo
    dsimp only at e1 e2
    subst e1
    subst e2
    obtain rfl : qp = 0 := hc
    obtain rfl := empty_of hn
    rfl
  · have hst : guessP S = upP S 7 := by
      have n0 : isNote S 0 = false := decide_eq_false (by rw [g0]; show ¬ presNm = noteNm; decide)
      have n1 : isNote S 1 = false := decide_eq_false (by rw [g1]; show ¬ tupleNm = noteNm; decide)
      have n2 : isNote S 2 = false := decide_eq_false (by rw [g2]; show ¬ stNm = noteNm; decide)
      have n3 : isNote S 3 = false := decide_eq_false (by rw [g3]; show ¬ basicNm = noteNm; decide)
      have n4 : isNote S 4 = false := decide_eq_false (by rw [g4]; show ¬ (⟨#[]⟩ : ByteArray) = noteNm; decide)
      have n5 : isNote S 5 = false := decide_eq_false (by rw [g5]; show ¬ actNm = noteNm; decide)
      have n6 : isNote S 6 = false := decide_eq_false (by rw [g6]; show ¬ actW p.shown = noteNm; unfold actW; split <;> decide)
      rw [guessP_none (fun j hj => ?_), hl]
      rw [hl] at hj
      match j, hj with
      | 0, _ => exact n0
      | 1, _ => exact n1
      | 2, _ => exact n2
      | 3, _ => exact n3
      | 4, _ => exact n4
      | 5, _ => exact n5
      | 6, _ => exact n6
    rw [hst]
    have s0 : upP S 0 = { dPr with sender := p.sender } := by
      show startP S = _
      unfold startP
      rw [g0, v0, off_pres]
    have s1 : upP S 1 = { dPr with sender := p.sender } := by
      show stepP S 0 (upP S 0) = _
      unfold stepP
      rw [g0, s0]
      simp only [show (rootP8 p.sender).name = presNm from rfl]
      rw [if_neg (show ¬ presNm = basicNm by decide), if_neg (show ¬ presNm = actNm by decide), if_neg (show ¬ presNm = contNm by decide), if_neg (show ¬ presNm = noteNm by decide)]
    have s2 : upP S 2 = { dPr with sender := p.sender } := by
      show stepP S 1 (upP S 1) = _
      unfold stepP
      rw [g1, s1]
      simp only [show (elemI 1 pidfSp tupleNm [⟨idNm, tT⟩]).name = tupleNm from rfl]
      rw [if_neg (show ¬ tupleNm = basicNm by decide), if_neg (show ¬ tupleNm = actNm by decide), if_neg (show ¬ tupleNm = contNm by decide), if_neg (show ¬ tupleNm = noteNm by decide)]
    have s3 : upP S 3 = { dPr with sender := p.sender } := by
      show stepP S 2 (upP S 2) = _
      unfold stepP
      rw [g2, s2]
      simp only [show (elemI 2 pidfSp stNm []).name = stNm from rfl]
      rw [if_neg (show ¬ stNm = basicNm by decide), if_neg (show ¬ stNm = actNm by decide), if_neg (show ¬ stNm = contNm by decide), if_neg (show ¬ stNm = noteNm by decide)]
    have s4 : upP S 4 = { dPr with sender := p.sender, kind := p.kind } := by
      show stepP S 3 (upP S 3) = _
      unfold stepP
      rw [g3, if_pos (show (elemI 3 pidfSp basicNm []).name = basicNm from rfl), t3, s3]
      rcases h.kd with hk | hk
      · rw [hk, show hasIx basicWs (basicW 0) = 0 by decide +kernel]
      · rw [hk, show hasIx basicWs (basicW 1) = 1 by decide +kernel]
    have s5 : upP S 5 = { dPr with sender := p.sender, kind := p.kind } := by
      show stepP S 4 (upP S 4) = _
      unfold stepP
      rw [g4, s4]
      simp only [show (textI 4 (basicW p.kind)).name = (⟨#[]⟩ : ByteArray) from rfl]
      rw [if_neg (show ¬ (⟨#[]⟩ : ByteArray) = basicNm by decide), if_neg (show ¬ (⟨#[]⟩ : ByteArray) = actNm by decide), if_neg (show ¬ (⟨#[]⟩ : ByteArray) = contNm by decide), if_neg (show ¬ (⟨#[]⟩ : ByteArray) = noteNm by decide)]
    have s6 : upP S 6 = { dPr with sender := p.sender, kind := p.kind, shown := p.shown } := by
      show stepP S 5 (upP S 5) = _
      unfold stepP
      rw [g5, if_neg (show ¬ (elemI 2 rpidSp actNm []).name = basicNm by decide), if_pos (show (elemI 2 rpidSp actNm []).name = actNm from rfl), k5, s5]
    have s7 : upP S 7 = { dPr with sender := p.sender, kind := p.kind, shown := p.shown } := by
      show stepP S 6 (upP S 6) = _
      unfold stepP
      rw [g6, s6]
      simp only [show (elemI 3 rpidSp (actW p.shown) []).name = actW p.shown from rfl]
      have aw : actW p.shown = awayNm ∨ actW p.shown = busyNm := by unfold actW; split; exact .inr rfl; exact .inl rfl
      rcases aw with aw | aw <;> rw [aw, if_neg (by decide), if_neg (by decide), if_neg (by decide), if_neg (by decide)]
    rw [s7]
    obtain ⟨qk, qf, qt, qs, qu, qp, qm⟩ := p
    have e1 := h.gl
    have e2 := h.mo
    dsimp only at e1 e2
    subst e1
    subst e2
    obtain rfl : qp = 0 := hc
    obtain rfl := empty_of hn
    rfl
theorem guess_101 {p : Pr} (h : OwnPr p) (hR : Rises (pidfL p)) (ha : p.shown ≠ 0) (hc : p.prio = 0) (hn : p.status.toList.isEmpty = false) : guessM (pidfL p) = p ∧ guessP (pidfL p) = p := by
  have e := pidf_101 ha hc hn
  obtain ⟨S, hS⟩ : ∃ S, pidfL p = S := ⟨_, rfl⟩
  rw [hS] at e hR ⊢
  have hl : S.length = 9 := by rw [e]; rfl
  have g0 : S.getD 0 dIt = rootP8 p.sender := by rw [e]; rfl
  have g1 : S.getD 1 dIt = elemI 1 pidfSp tupleNm [⟨idNm, tT⟩] := by rw [e]; rfl
  have g2 : S.getD 2 dIt = elemI 2 pidfSp stNm [] := by rw [e]; rfl
  have g3 : S.getD 3 dIt = elemI 3 pidfSp basicNm [] := by rw [e]; rfl
  have g4 : S.getD 4 dIt = textI 4 (basicW p.kind) := by rw [e]; rfl
  have g5 : S.getD 5 dIt = elemI 2 rpidSp actNm [] := by rw [e]; rfl
  have g6 : S.getD 6 dIt = elemI 3 rpidSp (actW p.shown) [] := by rw [e]; rfl
  have g7 : S.getD 7 dIt = elemI 2 pidfSp noteNm [] := by rw [e]; rfl
  have g8 : S.getD 8 dIt = textI 3 p.status := by rw [e]; rfl
  have d0 : dp S 0 = 0 := by unfold dp; rw [g0]; rfl
  have d1 : dp S 1 = 1 := by unfold dp; rw [g1]; rfl
  have d2 : dp S 2 = 2 := by unfold dp; rw [g2]; rfl
  have d3 : dp S 3 = 3 := by unfold dp; rw [g3]; rfl
  have d4 : dp S 4 = 4 := by unfold dp; rw [g4]; rfl
  have d5 : dp S 5 = 2 := by unfold dp; rw [g5]; rfl
  have d6 : dp S 6 = 3 := by unfold dp; rw [g6]; rfl
  have d7 : dp S 7 = 2 := by unfold dp; rw [g7]; rfl
  have d8 : dp S 8 = 3 := by unfold dp; rw [g8]; rfl
  have t3 : txtT (textL S 3) = basicW p.kind := by rw [text_one (by omega) (by rw [d4, d3]; rfl) (.inr (by rw [d5, d3]; decide)) (by rw [g4]; rfl), g4]; rfl
  have t7 : txtT (textL S 7) = p.status := by rw [text_one (by omega) (by rw [d8, d7]; rfl) (.inl (by rw [hl])) (by rw [g8]; rfl), g8]; rfl
  have ax : hasIx actWs (S.getD 6 dIt).name = p.shown := by
    rw [g6]
    show hasIx actWs (actW p.shown) = p.shown
    rcases h.sh with hs | hs | hs
    · exact absurd hs ha
    · rw [hs]; decide +kernel
    · rw [hs]; decide +kernel
  have k5 : showIx S 5 = p.shown := by
    unfold showIx
    rw [kids_one hR (by omega) (by rw [d6, d5]; rfl) (.inr (by rw [d7, d5]; decide)), show ([5 + 1] : List Nat).find? (fun k => decide (0 ≤ hasIx actWs (S.getD k dIt).name)) = some 6 from List.find?_cons_of_pos (p := fun k => decide (0 ≤ hasIx actWs (S.getD k dIt).name)) (decide_eq_true (show 0 ≤ hasIx actWs (S.getD 6 dIt).name by rw [ax]; rcases h.sh with hs | hs | hs <;> omega))]
    exact ax
  have v0 : valT (valueL (rootP8 p.sender).attrs entityNm) = presP ++ p.sender := by
    unfold valueL rootP8 elemI
    rw [List.find?_cons_of_pos (by simp)]
    rfl
  constructor
  · unfold guessM
    rw [hl]
    have s0 : upM S 0 = { dPr with sender := p.sender } := by
      show startM S = _
      unfold startM
      rw [g0, v0, behind_pres _ h.sz]
    have s1 : upM S 1 = { dPr with sender := p.sender } := by
      show stepM S 0 (upM S 0) = _
      unfold stepM
      rw [g0, s0]
      simp only [show (rootP8 p.sender).name = presNm from rfl]
      rw [if_neg (show ¬ presNm = basicNm by decide), if_neg (show ¬ presNm = awayNm by decide), if_neg (show ¬ presNm = busyNm by decide), if_neg (show ¬ presNm = noteNm by decide), if_neg (show ¬ presNm = contNm by decide)]
    have s2 : upM S 2 = { dPr with sender := p.sender } := by
      show stepM S 1 (upM S 1) = _
      unfold stepM
      rw [g1, s1]
      simp only [show (elemI 1 pidfSp tupleNm [⟨idNm, tT⟩]).name = tupleNm from rfl]
      rw [if_neg (show ¬ tupleNm = basicNm by decide), if_neg (show ¬ tupleNm = awayNm by decide), if_neg (show ¬ tupleNm = busyNm by decide), if_neg (show ¬ tupleNm = noteNm by decide), if_neg (show ¬ tupleNm = contNm by decide)]
    have s3 : upM S 3 = { dPr with sender := p.sender } := by
      show stepM S 2 (upM S 2) = _
      unfold stepM
      rw [g2, s2]
      simp only [show (elemI 2 pidfSp stNm []).name = stNm from rfl]
      rw [if_neg (show ¬ stNm = basicNm by decide), if_neg (show ¬ stNm = awayNm by decide), if_neg (show ¬ stNm = busyNm by decide), if_neg (show ¬ stNm = noteNm by decide), if_neg (show ¬ stNm = contNm by decide)]
    have s4 : upM S 4 = { dPr with sender := p.sender, kind := p.kind } := by
      show stepM S 3 (upM S 3) = _
      unfold stepM
      rw [g3, if_pos (show (elemI 3 pidfSp basicNm []).name = basicNm from rfl), t3, s3]
      rcases h.kd with hk | hk
      · rw [hk, if_neg (by decide)]; rfl
      · rw [hk, if_pos (by decide)]
    have s5 : upM S 5 = { dPr with sender := p.sender, kind := p.kind } := by
      show stepM S 4 (upM S 4) = _
      unfold stepM
      rw [g4, s4]
      simp only [show (textI 4 (basicW p.kind)).name = (⟨#[]⟩ : ByteArray) from rfl]
      rw [if_neg (show ¬ (⟨#[]⟩ : ByteArray) = basicNm by decide), if_neg (show ¬ (⟨#[]⟩ : ByteArray) = awayNm by decide), if_neg (show ¬ (⟨#[]⟩ : ByteArray) = busyNm by decide), if_neg (show ¬ (⟨#[]⟩ : ByteArray) = noteNm by decide), if_neg (show ¬ (⟨#[]⟩ : ByteArray) = contNm by decide)]
    have s6 : upM S 6 = { dPr with sender := p.sender, kind := p.kind } := by
      show stepM S 5 (upM S 5) = _
      unfold stepM
      rw [g5, s5]
      simp only [show (elemI 2 rpidSp actNm []).name = actNm from rfl]
      rw [if_neg (show ¬ actNm = basicNm by decide), if_neg (show ¬ actNm = awayNm by decide), if_neg (show ¬ actNm = busyNm by decide), if_neg (show ¬ actNm = noteNm by decide), if_neg (show ¬ actNm = contNm by decide)]
    have s7 : upM S 7 = { dPr with sender := p.sender, kind := p.kind, shown := p.shown } := by
      show stepM S 6 (upM S 6) = _
      unfold stepM
      rw [g6, s6]
      rcases h.sh with hs | hs | hs
      · exact absurd hs ha
      · rw [hs, if_neg (by decide), if_pos (by decide)]
      · rw [hs, if_neg (by decide), if_neg (by decide), if_pos (by decide)]
    have s8 : upM S 8 = { dPr with sender := p.sender, kind := p.kind, shown := p.shown, status := p.status } := by
      show stepM S 7 (upM S 7) = _
      unfold stepM
      rw [g7, if_neg (show ¬ (elemI 2 pidfSp noteNm []).name = basicNm by decide), if_neg (show ¬ (elemI 2 pidfSp noteNm []).name = awayNm by decide), if_neg (show ¬ (elemI 2 pidfSp noteNm []).name = busyNm by decide), if_pos (show (elemI 2 pidfSp noteNm []).name = noteNm from rfl), t7, s7]
    have s9 : upM S 9 = { dPr with sender := p.sender, kind := p.kind, shown := p.shown, status := p.status } := by
      show stepM S 8 (upM S 8) = _
      unfold stepM
      rw [g8, s8]
      simp only [show (textI 3 p.status).name = (⟨#[]⟩ : ByteArray) from rfl]
      rw [if_neg (show ¬ (⟨#[]⟩ : ByteArray) = basicNm by decide), if_neg (show ¬ (⟨#[]⟩ : ByteArray) = awayNm by decide), if_neg (show ¬ (⟨#[]⟩ : ByteArray) = busyNm by decide), if_neg (show ¬ (⟨#[]⟩ : ByteArray) = noteNm by decide), if_neg (show ¬ (⟨#[]⟩ : ByteArray) = contNm by decide)]
    rw [s9]
    obtain ⟨qk, qf, qt, qs, qu, qp, qm⟩ := p
    have e1 := h.gl
    have e2 := h.mo
    dsimp only at e1 e2
    subst e1
    subst e2
    obtain rfl : qp = 0 := hc
    rfl
  · have hst : guessP S = upP S 8 := by
      have n0 : isNote S 0 = false := decide_eq_false (by rw [g0]; show ¬ presNm = noteNm; decide)
      have n1 : isNote S 1 = false := decide_eq_false (by rw [g1]; show ¬ tupleNm = noteNm; decide)
      have n2 : isNote S 2 = false := decide_eq_false (by rw [g2]; show ¬ stNm = noteNm; decide)
      have n3 : isNote S 3 = false := decide_eq_false (by rw [g3]; show ¬ basicNm = noteNm; decide)
      have n4 : isNote S 4 = false := decide_eq_false (by rw [g4]; show ¬ (⟨#[]⟩ : ByteArray) = noteNm; decide)
      have n5 : isNote S 5 = false := decide_eq_false (by rw [g5]; show ¬ actNm = noteNm; decide)
      have n6 : isNote S 6 = false := decide_eq_false (by rw [g6]; show ¬ actW p.shown = noteNm; unfold actW; split <;> decide)
      refine guessP_note (by omega) (fun j hj => ?_) (decide_eq_true (by rw [g7]; rfl))
      match j, hj with
      | 0, _ => exact n0
      | 1, _ => exact n1
      | 2, _ => exact n2
      | 3, _ => exact n3
      | 4, _ => exact n4
      | 5, _ => exact n5
      | 6, _ => exact n6
    rw [hst]
    have s0 : upP S 0 = { dPr with sender := p.sender } := by
      show startP S = _
      unfold startP
      rw [g0, v0, off_pres]
    have s1 : upP S 1 = { dPr with sender := p.sender } := by
      show stepP S 0 (upP S 0) = _
      unfold stepP
      rw [g0, s0]
      simp only [show (rootP8 p.sender).name = presNm from rfl]
      rw [if_neg (show ¬ presNm = basicNm by decide), if_neg (show ¬ presNm = actNm by decide), if_neg (show ¬ presNm = contNm by decide), if_neg (show ¬ presNm = noteNm by decide)]
    have s2 : upP S 2 = { dPr with sender := p.sender } := by
      show stepP S 1 (upP S 1) = _
      unfold stepP
      rw [g1, s1]
      simp only [show (elemI 1 pidfSp tupleNm [⟨idNm, tT⟩]).name = tupleNm from rfl]
      rw [if_neg (show ¬ tupleNm = basicNm by decide), if_neg (show ¬ tupleNm = actNm by decide), if_neg (show ¬ tupleNm = contNm by decide), if_neg (show ¬ tupleNm = noteNm by decide)]
    have s3 : upP S 3 = { dPr with sender := p.sender } := by
      show stepP S 2 (upP S 2) = _
      unfold stepP
      rw [g2, s2]
      simp only [show (elemI 2 pidfSp stNm []).name = stNm from rfl]
      rw [if_neg (show ¬ stNm = basicNm by decide), if_neg (show ¬ stNm = actNm by decide), if_neg (show ¬ stNm = contNm by decide), if_neg (show ¬ stNm = noteNm by decide)]
    have s4 : upP S 4 = { dPr with sender := p.sender, kind := p.kind } := by
      show stepP S 3 (upP S 3) = _
      unfold stepP
      rw [g3, if_pos (show (elemI 3 pidfSp basicNm []).name = basicNm from rfl), t3, s3]
      rcases h.kd with hk | hk
      · rw [hk, show hasIx basicWs (basicW 0) = 0 by decide +kernel]
      · rw [hk, show hasIx basicWs (basicW 1) = 1 by decide +kernel]
    have s5 : upP S 5 = { dPr with sender := p.sender, kind := p.kind } := by
      show stepP S 4 (upP S 4) = _
      unfold stepP
      rw [g4, s4]
      simp only [show (textI 4 (basicW p.kind)).name = (⟨#[]⟩ : ByteArray) from rfl]
      rw [if_neg (show ¬ (⟨#[]⟩ : ByteArray) = basicNm by decide), if_neg (show ¬ (⟨#[]⟩ : ByteArray) = actNm by decide), if_neg (show ¬ (⟨#[]⟩ : ByteArray) = contNm by decide), if_neg (show ¬ (⟨#[]⟩ : ByteArray) = noteNm by decide)]
    have s6 : upP S 6 = { dPr with sender := p.sender, kind := p.kind, shown := p.shown } := by
      show stepP S 5 (upP S 5) = _
      unfold stepP
      rw [g5, if_neg (show ¬ (elemI 2 rpidSp actNm []).name = basicNm by decide), if_pos (show (elemI 2 rpidSp actNm []).name = actNm from rfl), k5, s5]
    have s7 : upP S 7 = { dPr with sender := p.sender, kind := p.kind, shown := p.shown } := by
      show stepP S 6 (upP S 6) = _
      unfold stepP
      rw [g6, s6]
      simp only [show (elemI 3 rpidSp (actW p.shown) []).name = actW p.shown from rfl]
      have aw : actW p.shown = awayNm ∨ actW p.shown = busyNm := by unfold actW; split; exact .inr rfl; exact .inl rfl
      rcases aw with aw | aw <;> rw [aw, if_neg (by decide), if_neg (by decide), if_neg (by decide), if_neg (by decide)]
    have s8 : upP S 8 = { dPr with sender := p.sender, kind := p.kind, shown := p.shown, status := p.status } := by
      show stepP S 7 (upP S 7) = _
      unfold stepP
      rw [g7, if_neg (show ¬ (elemI 2 pidfSp noteNm []).name = basicNm by decide), if_neg (show ¬ (elemI 2 pidfSp noteNm []).name = actNm by decide), if_neg (show ¬ (elemI 2 pidfSp noteNm []).name = contNm by decide), if_pos (show (elemI 2 pidfSp noteNm []).name = noteNm from rfl), t7, s7]
    rw [s8]
    obtain ⟨qk, qf, qt, qs, qu, qp, qm⟩ := p
    have e1 := h.gl
    have e2 := h.mo
    dsimp only at e1 e2
    subst e1
    subst e2
    obtain rfl : qp = 0 := hc
    rfl
theorem guess_110 {p : Pr} (h : OwnPr p) (hR : Rises (pidfL p)) (ha : p.shown ≠ 0) (hc : p.prio ≠ 0) (hn : p.status.toList.isEmpty = true) : guessM (pidfL p) = p ∧ guessP (pidfL p) = p := by
  have e := pidf_110 ha hc hn
  obtain ⟨S, hS⟩ : ∃ S, pidfL p = S := ⟨_, rfl⟩
  rw [hS] at e hR ⊢
  have hl : S.length = 9 := by rw [e]; rfl
  have g0 : S.getD 0 dIt = rootP8 p.sender := by rw [e]; rfl
  have g1 : S.getD 1 dIt = elemI 1 pidfSp tupleNm [⟨idNm, tT⟩] := by rw [e]; rfl
  have g2 : S.getD 2 dIt = elemI 2 pidfSp stNm [] := by rw [e]; rfl
  have g3 : S.getD 3 dIt = elemI 3 pidfSp basicNm [] := by rw [e]; rfl
  have g4 : S.getD 4 dIt = textI 4 (basicW p.kind) := by rw [e]; rfl
  have g5 : S.getD 5 dIt = elemI 2 rpidSp actNm [] := by rw [e]; rfl
  have g6 : S.getD 6 dIt = elemI 3 rpidSp (actW p.shown) [] := by rw [e]; rfl
  have g7 : S.getD 7 dIt = elemI 2 pidfSp contNm [⟨prioKey, shareText (thouVal p.prio)⟩] := by rw [e]; rfl
  have g8 : S.getD 8 dIt = textI 3 (xmppP ++ p.sender) := by rw [e]; rfl
  have d0 : dp S 0 = 0 := by unfold dp; rw [g0]; rfl
  have d1 : dp S 1 = 1 := by unfold dp; rw [g1]; rfl
  have d2 : dp S 2 = 2 := by unfold dp; rw [g2]; rfl
  have d3 : dp S 3 = 3 := by unfold dp; rw [g3]; rfl
  have d4 : dp S 4 = 4 := by unfold dp; rw [g4]; rfl
  have d5 : dp S 5 = 2 := by unfold dp; rw [g5]; rfl
  have d6 : dp S 6 = 3 := by unfold dp; rw [g6]; rfl
  have d7 : dp S 7 = 2 := by unfold dp; rw [g7]; rfl
  have d8 : dp S 8 = 3 := by unfold dp; rw [g8]; rfl
  have t3 : txtT (textL S 3) = basicW p.kind := by rw [text_one (by omega) (by rw [d4, d3]; rfl) (.inr (by rw [d5, d3]; decide)) (by rw [g4]; rfl), g4]; rfl
  have ax : hasIx actWs (S.getD 6 dIt).name = p.shown := by
    rw [g6]
    show hasIx actWs (actW p.shown) = p.shown
    rcases h.sh with hs | hs | hs
    · exact absurd hs ha
    · rw [hs]; decide +kernel
    · rw [hs]; decide +kernel
  have k5 : showIx S 5 = p.shown := by
    unfold showIx
    rw [kids_one hR (by omega) (by rw [d6, d5]; rfl) (.inr (by rw [d7, d5]; decide)), show ([5 + 1] : List Nat).find? (fun k => decide (0 ≤ hasIx actWs (S.getD k dIt).name)) = some 6 from List.find?_cons_of_pos (p := fun k => decide (0 ≤ hasIx actWs (S.getD k dIt).name)) (decide_eq_true (show 0 ≤ hasIx actWs (S.getD 6 dIt).name by rw [ax]; rcases h.sh with hs | hs | hs <;> omega))]
    exact ax
  have v0 : valT (valueL (rootP8 p.sender).attrs entityNm) = presP ++ p.sender := by
    unfold valueL rootP8 elemI
    rw [List.find?_cons_of_pos (by simp)]
    rfl
  have vc : valT (valueL (elemI 2 pidfSp contNm [⟨prioKey, shareText (thouVal p.prio)⟩]).attrs prioKey) = shareText (thouVal p.prio) := by
    unfold valueL elemI
    rw [List.find?_cons_of_pos (by simp)]
    rfl
  obtain ⟨pk, hpk⟩ : ∃ k : Nat, p.prio = (k : Int) := ⟨p.prio.toNat, by have := h.pr.1; omega⟩
  have hk127 : pk ≤ 127 := by have := h.pr.2; omega
  have b1 : prioVal (read8 (shareText (thouVal p.prio))) = p.prio := by rw [hpk]; exact share_back pk hk127
  have b2 : prioWith (shareText (thouVal p.prio)) = p.prio := by rw [hpk]; exact share_with pk (by omega) hk127
  constructor
  · unfold guessM
    rw [hl]
    have s0 : upM S 0 = { dPr with sender := p.sender } := by
      show startM S = _
      unfold startM
      rw [g0, v0, behind_pres _ h.sz]
    have s1 : upM S 1 = { dPr with sender := p.sender } := by
      show stepM S 0 (upM S 0) = _
      unfold stepM
      rw [g0, s0]
      simp only [show (rootP8 p.sender).name = presNm from rfl]
      rw [if_neg (show ¬ presNm = basicNm by decide), if_neg (show ¬ presNm = awayNm by decide), if_neg (show ¬ presNm = busyNm by decide), if_neg (show ¬ presNm = noteNm by decide), if_neg (show ¬ presNm = contNm by decide)]
    have s2 : upM S 2 = { dPr with sender := p.sender } := by
      show stepM S 1 (upM S 1) = _
      unfold stepM
      rw [g1, s1]
      simp only [show (elemI 1 pidfSp tupleNm [⟨idNm, tT⟩]).name = tupleNm from rfl]
      rw [if_neg (show ¬ tupleNm = basicNm by decide), if_neg (show ¬ tupleNm = awayNm by decide), if_neg (show ¬ tupleNm = busyNm by decide), if_neg (show ¬ tupleNm = noteNm by decide), if_neg (show ¬ tupleNm = contNm by decide)]
    have s3 : upM S 3 = { dPr with sender := p.sender } := by
      show stepM S 2 (upM S 2) = _
      unfold stepM
      rw [g2, s2]
      simp only [show (elemI 2 pidfSp stNm []).name = stNm from rfl]
      rw [if_neg (show ¬ stNm = basicNm by decide), if_neg (show ¬ stNm = awayNm by decide), if_neg (show ¬ stNm = busyNm by decide), if_neg (show ¬ stNm = noteNm by decide), if_neg (show ¬ stNm = contNm by decide)]
    have s4 : upM S 4 = { dPr with sender := p.sender, kind := p.kind } := by
      show stepM S 3 (upM S 3) = _
      unfold stepM
      rw [g3, if_pos (show (elemI 3 pidfSp basicNm []).name = basicNm from rfl), t3, s3]
      rcases h.kd with hk | hk
      · rw [hk, if_neg (by decide)]; rfl
      · rw [hk, if_pos (by decide)]
    have s5 : upM S 5 = { dPr with sender := p.sender, kind := p.kind } := by
      show stepM S 4 (upM S 4) = _
      unfold stepM
      rw [g4, s4]
      simp only [show (textI 4 (basicW p.kind)).name = (⟨#[]⟩ : ByteArray) from rfl]
      rw [if_neg (show ¬ (⟨#[]⟩ : ByteArray) = basicNm by decide), if_neg (show ¬ (⟨#[]⟩ : ByteArray) = awayNm by decide), if_neg (show ¬ (⟨#[]⟩ : ByteArray) = busyNm by decide), if_neg (show ¬ (⟨#[]⟩ : ByteArray) = noteNm by decide), if_neg (show ¬ (⟨#[]⟩ : ByteArray) = contNm by decide)]
    have s6 : upM S 6 = { dPr with sender := p.sender, kind := p.kind } := by
      show stepM S 5 (upM S 5) = _
      unfold stepM
      rw [g5, s5]
      simp only [show (elemI 2 rpidSp actNm []).name = actNm from rfl]
      rw [if_neg (show ¬ actNm = basicNm by decide), if_neg (show ¬ actNm = awayNm by decide), if_neg (show ¬ actNm = busyNm by decide), if_neg (show ¬ actNm = noteNm by decide), if_neg (show ¬ actNm = contNm by decide)]
    have s7 : upM S 7 = { dPr with sender := p.sender, kind := p.kind, shown := p.shown } := by
      show stepM S 6 (upM S 6) = _
      unfold stepM
      rw [g6, s6]
      rcases h.sh with hs | hs | hs
      · exact absurd hs ha
      · rw [hs, if_neg (by decide), if_pos (by decide)]
      · rw [hs, if_neg (by decide), if_neg (by decide), if_pos (by decide)]
    have s8 : upM S 8 = { dPr with sender := p.sender, kind := p.kind, shown := p.shown, prio := p.prio } := by
      show stepM S 7 (upM S 7) = _
      unfold stepM
      rw [g7, if_neg (show ¬ (elemI 2 pidfSp contNm [⟨prioKey, shareText (thouVal p.prio)⟩]).name = basicNm by show ¬ contNm = basicNm; decide), if_neg (show ¬ (elemI 2 pidfSp contNm [⟨prioKey, shareText (thouVal p.prio)⟩]).name = awayNm by show ¬ contNm = awayNm; decide), if_neg (show ¬ (elemI 2 pidfSp contNm [⟨prioKey, shareText (thouVal p.prio)⟩]).name = busyNm by show ¬ contNm = busyNm; decide), if_neg (show ¬ (elemI 2 pidfSp contNm [⟨prioKey, shareText (thouVal p.prio)⟩]).name = noteNm by show ¬ contNm = noteNm; decide), if_pos (show (elemI 2 pidfSp contNm [⟨prioKey, shareText (thouVal p.prio)⟩]).name = contNm from rfl), vc, b1, s7]
    have s9 : upM S 9 = { dPr with sender := p.sender, kind := p.kind, shown := p.shown, prio := p.prio } := by
      show stepM S 8 (upM S 8) = _
      unfold stepM
      rw [g8, s8]
      simp only [show (textI 3 (xmppP ++ p.sender)).name = (⟨#[]⟩ : ByteArray) from rfl]
      rw [if_neg (show ¬ (⟨#[]⟩ : ByteArray) = basicNm by decide), if_neg (show ¬ (⟨#[]⟩ : ByteArray) = awayNm by decide), if_neg (show ¬ (⟨#[]⟩ : ByteArray) = busyNm by decide), if_neg (show ¬ (⟨#[]⟩ : ByteArray) = noteNm by decide), if_neg (show ¬ (⟨#[]⟩ : ByteArray) = contNm by decide)]
    rw [s9]
    obtain ⟨qk, qf, qt, qs, qu, qp, qm⟩ := p
    have e1 := h.gl
    have e2 := h.mo
    dsimp only at e1 e2
    subst e1
    subst e2
    obtain rfl := empty_of hn
    rfl
  · have hst : guessP S = upP S 9 := by
      have n0 : isNote S 0 = false := decide_eq_false (by rw [g0]; show ¬ presNm = noteNm; decide)
      have n1 : isNote S 1 = false := decide_eq_false (by rw [g1]; show ¬ tupleNm = noteNm; decide)
      have n2 : isNote S 2 = false := decide_eq_false (by rw [g2]; show ¬ stNm = noteNm; decide)
      have n3 : isNote S 3 = false := decide_eq_false (by rw [g3]; show ¬ basicNm = noteNm; decide)
      have n4 : isNote S 4 = false := decide_eq_false (by rw [g4]; show ¬ (⟨#[]⟩ : ByteArray) = noteNm; decide)
      have n5 : isNote S 5 = false := decide_eq_false (by rw [g5]; show ¬ actNm = noteNm; decide)
      have n6 : isNote S 6 = false := decide_eq_false (by rw [g6]; show ¬ actW p.shown = noteNm; unfold actW; split <;> decide)
      have n7 : isNote S 7 = false := decide_eq_false (by rw [g7]; show ¬ contNm = noteNm; decide)
      have n8 : isNote S 8 = false := decide_eq_false (by rw [g8]; show ¬ (⟨#[]⟩ : ByteArray) = noteNm; decide)
      rw [guessP_none (fun j hj => ?_), hl]
      rw [hl] at hj
      match j, hj with
      | 0, _ => exact n0
      | 1, _ => exact n1
      | 2, _ => exact n2
      | 3, _ => exact n3
      | 4, _ => exact n4
      | 5, _ => exact n5
      | 6, _ => exact n6
      | 7, _ => exact n7
      | 8, _ => exact n8
    rw [hst]
    have s0 : upP S 0 = { dPr with sender := p.sender } := by
      show startP S = _
      unfold startP
      rw [g0, v0, off_pres]
    have s1 : upP S 1 = { dPr with sender := p.sender } := by
      show stepP S 0 (upP S 0) = _
      unfold stepP
      rw [g0, s0]
      simp only [show (rootP8 p.sender).name = presNm from rfl]
      rw [if_neg (show ¬ presNm = basicNm by decide), if_neg (show ¬ presNm = actNm by decide), if_neg (show ¬ presNm = contNm by decide), if_neg (show ¬ presNm = noteNm by decide)]
    have s2 : upP S 2 = { dPr with sender := p.sender } := by
      show stepP S 1 (upP S 1) = _
      unfold stepP
      rw [g1, s1]
      simp only [show (elemI 1 pidfSp tupleNm [⟨idNm, tT⟩]).name = tupleNm from rfl]
      rw [if_neg (show ¬ tupleNm = basicNm by decide), if_neg (show ¬ tupleNm = actNm by decide), if_neg (show ¬ tupleNm = contNm by decide), if_neg (show ¬ tupleNm = noteNm by decide)]
    have s3 : upP S 3 = { dPr with sender := p.sender } := by
      show stepP S 2 (upP S 2) = _
      unfold stepP
      rw [g2, s2]
      simp only [show (elemI 2 pidfSp stNm []).name = stNm from rfl]
      rw [if_neg (show ¬ stNm = basicNm by decide), if_neg (show ¬ stNm = actNm by decide), if_neg (show ¬ stNm = contNm by decide), if_neg (show ¬ stNm = noteNm by decide)]
    have s4 : upP S 4 = { dPr with sender := p.sender, kind := p.kind } := by
      show stepP S 3 (upP S 3) = _
      unfold stepP
      rw [g3, if_pos (show (elemI 3 pidfSp basicNm []).name = basicNm from rfl), t3, s3]
      rcases h.kd with hk | hk
      · rw [hk, show hasIx basicWs (basicW 0) = 0 by decide +kernel]
      · rw [hk, show hasIx basicWs (basicW 1) = 1 by decide +kernel]
    have s5 : upP S 5 = { dPr with sender := p.sender, kind := p.kind } := by
      show stepP S 4 (upP S 4) = _
      unfold stepP
      rw [g4, s4]
      simp only [show (textI 4 (basicW p.kind)).name = (⟨#[]⟩ : ByteArray) from rfl]
      rw [if_neg (show ¬ (⟨#[]⟩ : ByteArray) = basicNm by decide), if_neg (show ¬ (⟨#[]⟩ : ByteArray) = actNm by decide), if_neg (show ¬ (⟨#[]⟩ : ByteArray) = contNm by decide), if_neg (show ¬ (⟨#[]⟩ : ByteArray) = noteNm by decide)]
    have s6 : upP S 6 = { dPr with sender := p.sender, kind := p.kind, shown := p.shown } := by
      show stepP S 5 (upP S 5) = _
      unfold stepP
      rw [g5, if_neg (show ¬ (elemI 2 rpidSp actNm []).name = basicNm by decide), if_pos (show (elemI 2 rpidSp actNm []).name = actNm from rfl), k5, s5]
    have s7 : upP S 7 = { dPr with sender := p.sender, kind := p.kind, shown := p.shown } := by
      show stepP S 6 (upP S 6) = _
      unfold stepP
      rw [g6, s6]
      simp only [show (elemI 3 rpidSp (actW p.shown) []).name = actW p.shown from rfl]
      have aw : actW p.shown = awayNm ∨ actW p.shown = busyNm := by unfold actW; split; exact .inr rfl; exact .inl rfl
      rcases aw with aw | aw <;> rw [aw, if_neg (by decide), if_neg (by decide), if_neg (by decide), if_neg (by decide)]
    have s8 : upP S 8 = { dPr with sender := p.sender, kind := p.kind, shown := p.shown, prio := p.prio } := by
      show stepP S 7 (upP S 7) = _
      unfold stepP
      rw [g7, if_neg (show ¬ (elemI 2 pidfSp contNm [⟨prioKey, shareText (thouVal p.prio)⟩]).name = basicNm by show ¬ contNm = basicNm; decide), if_neg (show ¬ (elemI 2 pidfSp contNm [⟨prioKey, shareText (thouVal p.prio)⟩]).name = actNm by show ¬ contNm = actNm; decide), if_pos (show (elemI 2 pidfSp contNm [⟨prioKey, shareText (thouVal p.prio)⟩]).name = contNm from rfl), vc, b2, s7]
    have s9 : upP S 9 = { dPr with sender := p.sender, kind := p.kind, shown := p.shown, prio := p.prio } := by
      show stepP S 8 (upP S 8) = _
      unfold stepP
      rw [g8, s8]
      simp only [show (textI 3 (xmppP ++ p.sender)).name = (⟨#[]⟩ : ByteArray) from rfl]
      rw [if_neg (show ¬ (⟨#[]⟩ : ByteArray) = basicNm by decide), if_neg (show ¬ (⟨#[]⟩ : ByteArray) = actNm by decide), if_neg (show ¬ (⟨#[]⟩ : ByteArray) = contNm by decide), if_neg (show ¬ (⟨#[]⟩ : ByteArray) = noteNm by decide)]
    rw [s9]
    obtain ⟨qk, qf, qt, qs, qu, qp, qm⟩ := p
    have e1 := h.gl
    have e2 := h.mo
    dsimp only at e1 e2
    subst e1
    subst e2
    obtain rfl := empty_of hn
    rfl
theorem guess_111 {p : Pr} (h : OwnPr p) (hR : Rises (pidfL p)) (ha : p.shown ≠ 0) (hc : p.prio ≠ 0) (hn : p.status.toList.isEmpty = false) : guessM (pidfL p) = p ∧ guessP (pidfL p) = p := by
  have e := pidf_111 ha hc hn
  obtain ⟨S, hS⟩ : ∃ S, pidfL p = S := ⟨_, rfl⟩
  rw [hS] at e hR ⊢
  have hl : S.length = 11 := by rw [e]; rfl
  have g0 : S.getD 0 dIt = rootP8 p.sender := by rw [e]; rfl
  have g1 : S.getD 1 dIt = elemI 1 pidfSp tupleNm [⟨idNm, tT⟩] := by rw [e]; rfl
  have g2 : S.getD 2 dIt = elemI 2 pidfSp stNm [] := by rw [e]; rfl
  have g3 : S.getD 3 dIt = elemI 3 pidfSp basicNm [] := by rw [e]; rfl
  have g4 : S.getD 4 dIt = textI 4 (basicW p.kind) := by rw [e]; rfl
  have g5 : S.getD 5 dIt = elemI 2 rpidSp actNm [] := by rw [e]; rfl
  have g6 : S.getD 6 dIt = elemI 3 rpidSp (actW p.shown) [] := by rw [e]; rfl
  have g7 : S.getD 7 dIt = elemI 2 pidfSp contNm [⟨prioKey, shareText (thouVal p.prio)⟩] := by rw [e]; rfl
  have g8 : S.getD 8 dIt = textI 3 (xmppP ++ p.sender) := by rw [e]; rfl
  have g9 : S.getD 9 dIt = elemI 2 pidfSp noteNm [] := by rw [e]; rfl
  have g10 : S.getD 10 dIt = textI 3 p.status := by rw [e]; rfl
  have d0 : dp S 0 = 0 := by unfold dp; rw [g0]; rfl
  have d1 : dp S 1 = 1 := by unfold dp; rw [g1]; rfl
  have d2 : dp S 2 = 2 := by unfold dp; rw [g2]; rfl
  have d3 : dp S 3 = 3 := by unfold dp; rw [g3]; rfl
  have d4 : dp S 4 = 4 := by unfold dp; rw [g4]; rfl
  have d5 : dp S 5 = 2 := by unfold dp; rw [g5]; rfl
  have d6 : dp S 6 = 3 := by unfold dp; rw [g6]; rfl
  have d7 : dp S 7 = 2 := by unfold dp; rw [g7]; rfl
  have d8 : dp S 8 = 3 := by unfold dp; rw [g8]; rfl
  have d9 : dp S 9 = 2 := by unfold dp; rw [g9]; rfl
  have d10 : dp S 10 = 3 := by unfold dp; rw [g10]; rfl
  have t3 : txtT (textL S 3) = basicW p.kind := by rw [text_one (by omega) (by rw [d4, d3]; rfl) (.inr (by rw [d5, d3]; decide)) (by rw [g4]; rfl), g4]; rfl
  have t9 : txtT (textL S 9) = p.status := by rw [text_one (by omega) (by rw [d10, d9]; rfl) (.inl (by rw [hl])) (by rw [g10]; rfl), g10]; rfl
  have ax : hasIx actWs (S.getD 6 dIt).name = p.shown := by
    rw [g6]
    show hasIx actWs (actW p.shown) = p.shown
    rcases h.sh with hs | hs | hs
    · exact absurd hs ha
    · rw [hs]; decide +kernel
    · rw [hs]; decide +kernel
  have k5 : showIx S 5 = p.shown := by
    unfold showIx
    rw [kids_one hR (by omega) (by rw [d6, d5]; rfl) (.inr (by rw [d7, d5]; decide)), show ([5 + 1] : List Nat).find? (fun k => decide (0 ≤ hasIx actWs (S.getD k dIt).name)) = some 6 from List.find?_cons_of_pos (p := fun k => decide (0 ≤ hasIx actWs (S.getD k dIt).name)) (decide_eq_true (show 0 ≤ hasIx actWs (S.getD 6 dIt).name by rw [ax]; rcases h.sh with hs | hs | hs <;> omega))]
    exact ax
  have v0 : valT (valueL (rootP8 p.sender).attrs entityNm) = presP ++ p.sender := by
    unfold valueL rootP8 elemI
    rw [List.find?_cons_of_pos (by simp)]
    rfl
  have vc : valT (valueL (elemI 2 pidfSp contNm [⟨prioKey, shareText (thouVal p.prio)⟩]).attrs prioKey) = shareText (thouVal p.prio) := by
    unfold valueL elemI
    rw [List.find?_cons_of_pos (by simp)]
    rfl
  obtain ⟨pk, hpk⟩ : ∃ k : Nat, p.prio = (k : Int) := ⟨p.prio.toNat, by have := h.pr.1; omega⟩
  have hk127 : pk ≤ 127 := by have := h.pr.2; omega
  have b1 : prioVal (read8 (shareText (thouVal p.prio))) = p.prio := by rw [hpk]; exact share_back pk hk127
  have b2 : prioWith (shareText (thouVal p.prio)) = p.prio := by rw [hpk]; exact share_with pk (by omega) hk127
  constructor
  · unfold guessM
    rw [hl]
    have s0 : upM S 0 = { dPr with sender := p.sender } := by
      show startM S = _
      unfold startM
      rw [g0, v0, behind_pres _ h.sz]
    have s1 : upM S 1 = { dPr with sender := p.sender } := by
      show stepM S 0 (upM S 0) = _
      unfold stepM
      rw [g0, s0]
      simp only [show (rootP8 p.sender).name = presNm from rfl]
      rw [if_neg (show ¬ presNm = basicNm by decide), if_neg (show ¬ presNm = awayNm by decide), if_neg (show ¬ presNm = busyNm by decide), if_neg (show ¬ presNm = noteNm by decide), if_neg (show ¬ presNm = contNm by decide)]
    have s2 : upM S 2 = { dPr with sender := p.sender } := by
      show stepM S 1 (upM S 1) = _
      unfold stepM
      rw [g1, s1]
      simp only [show (elemI 1 pidfSp tupleNm [⟨idNm, tT⟩]).name = tupleNm from rfl]
      rw [if_neg (show ¬ tupleNm = basicNm by decide), if_neg (show ¬ tupleNm = awayNm by decide), if_neg (show ¬ tupleNm = busyNm by decide), if_neg (show ¬ tupleNm = noteNm by decide), if_neg (show ¬ tupleNm = contNm by decide)]
    have s3 : upM S 3 = { dPr with sender := p.sender } := by
      show stepM S 2 (upM S 2) = _
      unfold stepM
      rw [g2, s2]
      simp only [show (elemI 2 pidfSp stNm []).name = stNm from rfl]
      rw [if_neg (show ¬ stNm = basicNm by decide), if_neg (show ¬ stNm = awayNm by decide), if_neg (show ¬ stNm = busyNm by decide), if_neg (show ¬ stNm = noteNm by decide), if_neg (show ¬ stNm = contNm by decide)]
    have s4 : upM S 4 = { dPr with sender := p.sender, kind := p.kind } := by
      show stepM S 3 (upM S 3) = _
      unfold stepM
      rw [g3, if_pos (show (elemI 3 pidfSp basicNm []).name = basicNm from rfl), t3, s3]
      rcases h.kd with hk | hk
      · rw [hk, if_neg (by decide)]; rfl
      · rw [hk, if_pos (by decide)]
    have s5 : upM S 5 = { dPr with sender := p.sender, kind := p.kind } := by
      show stepM S 4 (upM S 4) = _
      unfold stepM
      rw [g4, s4]
      simp only [show (textI 4 (basicW p.kind)).name = (⟨#[]⟩ : ByteArray) from rfl]
      rw [if_neg (show ¬ (⟨#[]⟩ : ByteArray) = basicNm by decide), if_neg (show ¬ (⟨#[]⟩ : ByteArray) = awayNm by decide), if_neg (show ¬ (⟨#[]⟩ : ByteArray) = busyNm by decide), if_neg (show ¬ (⟨#[]⟩ : ByteArray) = noteNm by decide), if_neg (show ¬ (⟨#[]⟩ : ByteArray) = contNm by decide)]
    have s6 : upM S 6 = { dPr with sender := p.sender, kind := p.kind } := by
      show stepM S 5 (upM S 5) = _
      unfold stepM
      rw [g5, s5]
      simp only [show (elemI 2 rpidSp actNm []).name = actNm from rfl]
      rw [if_neg (show ¬ actNm = basicNm by decide), if_neg (show ¬ actNm = awayNm by decide), if_neg (show ¬ actNm = busyNm by decide), if_neg (show ¬ actNm = noteNm by decide), if_neg (show ¬ actNm = contNm by decide)]
    have s7 : upM S 7 = { dPr with sender := p.sender, kind := p.kind, shown := p.shown } := by
      show stepM S 6 (upM S 6) = _
      unfold stepM
      rw [g6, s6]
      rcases h.sh with hs | hs | hs
      · exact absurd hs ha
      · rw [hs, if_neg (by decide), if_pos (by decide)]
      · rw [hs, if_neg (by decide), if_neg (by decide), if_pos (by decide)]
    have s8 : upM S 8 = { dPr with sender := p.sender, kind := p.kind, shown := p.shown, prio := p.prio } := by
      show stepM S 7 (upM S 7) = _
      unfold stepM
      rw [g7, if_neg (show ¬ (elemI 2 pidfSp contNm [⟨prioKey, shareText (thouVal p.prio)⟩]).name = basicNm by show ¬ contNm = basicNm; decide), if_neg (show ¬ (elemI 2 pidfSp contNm [⟨prioKey, shareText (thouVal p.prio)⟩]).name = awayNm by show ¬ contNm = awayNm; decide), if_neg (show ¬ (elemI 2 pidfSp contNm [⟨prioKey, shareText (thouVal p.prio)⟩]).name = busyNm by show ¬ contNm = busyNm; decide), if_neg (show ¬ (elemI 2 pidfSp contNm [⟨prioKey, shareText (thouVal p.prio)⟩]).name = noteNm by show ¬ contNm = noteNm; decide), if_pos (show (elemI 2 pidfSp contNm [⟨prioKey, shareText (thouVal p.prio)⟩]).name = contNm from rfl), vc, b1, s7]
    have s9 : upM S 9 = { dPr with sender := p.sender, kind := p.kind, shown := p.shown, prio := p.prio } := by
      show stepM S 8 (upM S 8) = _
      unfold stepM
      rw [g8, s8]
      simp only [show (textI 3 (xmppP ++ p.sender)).name = (⟨#[]⟩ : ByteArray) from rfl]
      rw [if_neg (show ¬ (⟨#[]⟩ : ByteArray) = basicNm by decide), if_neg (show ¬ (⟨#[]⟩ : ByteArray) = awayNm by decide), if_neg (show ¬ (⟨#[]⟩ : ByteArray) = busyNm by decide), if_neg (show ¬ (⟨#[]⟩ : ByteArray) = noteNm by decide), if_neg (show ¬ (⟨#[]⟩ : ByteArray) = contNm by decide)]
    have s10 : upM S 10 = { dPr with sender := p.sender, kind := p.kind, shown := p.shown, prio := p.prio, status := p.status } := by
      show stepM S 9 (upM S 9) = _
      unfold stepM
      rw [g9, if_neg (show ¬ (elemI 2 pidfSp noteNm []).name = basicNm by decide), if_neg (show ¬ (elemI 2 pidfSp noteNm []).name = awayNm by decide), if_neg (show ¬ (elemI 2 pidfSp noteNm []).name = busyNm by decide), if_pos (show (elemI 2 pidfSp noteNm []).name = noteNm from rfl), t9, s9]
    have s11 : upM S 11 = { dPr with sender := p.sender, kind := p.kind, shown := p.shown, prio := p.prio, status := p.status } := by
      show stepM S 10 (upM S 10) = _
      unfold stepM
      rw [g10, s10]
      simp only [show (textI 3 p.status).name = (⟨#[]⟩ : ByteArray) from rfl]
      rw [if_neg (show ¬ (⟨#[]⟩ : ByteArray) = basicNm by decide), if_neg (show ¬ (⟨#[]⟩ : ByteArray) = awayNm by decide), if_neg (show ¬ (⟨#[]⟩ : ByteArray) = busyNm by decide), if_neg (show ¬ (⟨#[]⟩ : ByteArray) = noteNm by decide), if_neg (show ¬ (⟨#[]⟩ : ByteArray) = contNm by decide)]
    rw [s11]
    obtain ⟨qk, qf, qt, qs, qu, qp, qm⟩ := p
    have e1 := h.gl
    have e2 := h.mo
    dsimp only at e1 e2
    subst e1
    subst e2
    rfl
  · have hst : guessP S = upP S 10 := by
      have n0 : isNote S 0 = false := decide_eq_false (by rw [g0]; show ¬ presNm = noteNm; decide)
      have n1 : isNote S 1 = false := decide_eq_false (by rw [g1]; show ¬ tupleNm = noteNm; decide)
      have n2 : isNote S 2 = false := decide_eq_false (by rw [g2]; show ¬ stNm = noteNm; decide)
      have n3 : isNote S 3 = false := decide_eq_false (by rw [g3]; show ¬ basicNm = noteNm; decide)
      have n4 : isNote S 4 = false := decide_eq_false (by rw [g4]; show ¬ (⟨#[]⟩ : ByteArray) = noteNm; decide)
      have n5 : isNote S 5 = false := decide_eq_false (by rw [g5]; show ¬ actNm = noteNm; decide)
      have n6 : isNote S 6 = false := decide_eq_false (by rw [g6]; show ¬ actW p.shown = noteNm; unfold actW; split <;> decide)
      have n7 : isNote S 7 = false := decide_eq_false (by rw [g7]; show ¬ contNm = noteNm; decide)
      have n8 : isNote S 8 = false := decide_eq_false (by rw [g8]; show ¬ (⟨#[]⟩ : ByteArray) = noteNm; decide)
      refine guessP_note (by omega) (fun j hj => ?_) (decide_eq_true (by rw [g9]; rfl))
      match j, hj with
      | 0, _ => exact n0
      | 1, _ => exact n1
      | 2, _ => exact n2
      | 3, _ => exact n3
      | 4, _ => exact n4
      | 5, _ => exact n5
      | 6, _ => exact n6
      | 7, _ => exact n7
      | 8, _ => exact n8
    rw [hst]
    have s0 : upP S 0 = { dPr with sender := p.sender } := by
      show startP S = _
      unfold startP
      rw [g0, v0, off_pres]
    have s1 : upP S 1 = { dPr with sender := p.sender } := by
      show stepP S 0 (upP S 0) = _
      unfold stepP
      rw [g0, s0]
      simp only [show (rootP8 p.sender).name = presNm from rfl]
      rw [if_neg (show ¬ presNm = basicNm by decide), if_neg (show ¬ presNm = actNm by decide), if_neg (show ¬ presNm = contNm by decide), if_neg (show ¬ presNm = noteNm by decide)]
    have s2 : upP S 2 = { dPr with sender := p.sender } := by
      show stepP S 1 (upP S 1) = _
      unfold stepP
      rw [g1, s1]
      simp only [show (elemI 1 pidfSp tupleNm [⟨idNm, tT⟩]).name = tupleNm from rfl]
      rw [if_neg (show ¬ tupleNm = basicNm by decide), if_neg (show ¬ tupleNm = actNm by decide), if_neg (show ¬ tupleNm = contNm by decide), if_neg (show ¬ tupleNm = noteNm by decide)]
    have s3 : upP S 3 = { dPr with sender := p.sender } := by
      show stepP S 2 (upP S 2) = _
      unfold stepP
      rw [g2, s2]
      simp only [show (elemI 2 pidfSp stNm []).name = stNm from rfl]
      rw [if_neg (show ¬ stNm = basicNm by decide), if_neg (show ¬ stNm = actNm by decide), if_neg (show ¬ stNm = contNm by decide), if_neg (show ¬ stNm = noteNm by decide)]
    have s4 : upP S 4 = { dPr with sender := p.sender, kind := p.kind } := by
      show stepP S 3 (upP S 3) = _
      unfold stepP
      rw [g3, if_pos (show (elemI 3 pidfSp basicNm []).name = basicNm from rfl), t3, s3]
      rcases h.kd with hk | hk
      · rw [hk, show hasIx basicWs (basicW 0) = 0 by decide +kernel]
      · rw [hk, show hasIx basicWs (basicW 1) = 1 by decide +kernel]
    have s5 : upP S 5 = { dPr with sender := p.sender, kind := p.kind } := by
      show stepP S 4 (upP S 4) = _
      unfold stepP
      rw [g4, s4]
      simp only [show (textI 4 (basicW p.kind)).name = (⟨#[]⟩ : ByteArray) from rfl]
      rw [if_neg (show ¬ (⟨#[]⟩ : ByteArray) = basicNm by decide), if_neg (show ¬ (⟨#[]⟩ : ByteArray) = actNm by decide), if_neg (show ¬ (⟨#[]⟩ : ByteArray) = contNm by decide), if_neg (show ¬ (⟨#[]⟩ : ByteArray) = noteNm by decide)]
    have s6 : upP S 6 = { dPr with sender := p.sender, kind := p.kind, shown := p.shown } := by
      show stepP S 5 (upP S 5) = _
      unfold stepP
      rw [g5, if_neg (show ¬ (elemI 2 rpidSp actNm []).name = basicNm by decide), if_pos (show (elemI 2 rpidSp actNm []).name = actNm from rfl), k5, s5]
    have s7 : upP S 7 = { dPr with sender := p.sender, kind := p.kind, shown := p.shown } := by
      show stepP S 6 (upP S 6) = _
      unfold stepP
      rw [g6, s6]
      simp only [show (elemI 3 rpidSp (actW p.shown) []).name = actW p.shown from rfl]
      have aw : actW p.shown = awayNm ∨ actW p.shown = busyNm := by unfold actW; split; exact .inr rfl; exact .inl rfl
      rcases aw with aw | aw <;> rw [aw, if_neg (by decide), if_neg (by decide), if_neg (by decide), if_neg (by decide)]
    have s8 : upP S 8 = { dPr with sender := p.sender, kind := p.kind, shown := p.shown, prio := p.prio } := by
      show stepP S 7 (upP S 7) = _
      unfold stepP
      rw [g7, if_neg (show ¬ (elemI 2 pidfSp contNm [⟨prioKey, shareText (thouVal p.prio)⟩]).name = basicNm by show ¬ contNm = basicNm; decide), if_neg (show ¬ (elemI 2 pidfSp contNm [⟨prioKey, shareText (thouVal p.prio)⟩]).name = actNm by show ¬ contNm = actNm; decide), if_pos (show (elemI 2 pidfSp contNm [⟨prioKey, shareText (thouVal p.prio)⟩]).name = contNm from rfl), vc, b2, s7]
    have s9 : upP S 9 = { dPr with sender := p.sender, kind := p.kind, shown := p.shown, prio := p.prio } := by
      show stepP S 8 (upP S 8) = _
      unfold stepP
      rw [g8, s8]
      simp only [show (textI 3 (xmppP ++ p.sender)).name = (⟨#[]⟩ : ByteArray) from rfl]
      rw [if_neg (show ¬ (⟨#[]⟩ : ByteArray) = basicNm by decide), if_neg (show ¬ (⟨#[]⟩ : ByteArray) = actNm by decide), if_neg (show ¬ (⟨#[]⟩ : ByteArray) = contNm by decide), if_neg (show ¬ (⟨#[]⟩ : ByteArray) = noteNm by decide)]
    have s10 : upP S 10 = { dPr with sender := p.sender, kind := p.kind, shown := p.shown, prio := p.prio, status := p.status } := by
      show stepP S 9 (upP S 9) = _
      unfold stepP
      rw [g9, if_neg (show ¬ (elemI 2 pidfSp noteNm []).name = basicNm by decide), if_neg (show ¬ (elemI 2 pidfSp noteNm []).name = actNm by decide), if_neg (show ¬ (elemI 2 pidfSp noteNm []).name = contNm by decide), if_pos (show (elemI 2 pidfSp noteNm []).name = noteNm from rfl), t9, s9]
    rw [s10]
    obtain ⟨qk, qf, qt, qs, qu, qp, qm⟩ := p
    have e1 := h.gl
    have e2 := h.mo
    dsimp only at e1 e2
    subst e1
    subst e2
    rfl
theorem guess_right {p : Pr} (h : OwnPr p) (hR : Rises (pidfL p)) : guessM (pidfL p) = p ∧ guessP (pidfL p) = p := by
  by_cases ha : p.shown = 0
  · by_cases hc : p.prio = 0
    · cases hn : p.status.toList.isEmpty
      · exact guess_001 h hR ha hc hn
      · exact guess_000 h hR ha hc hn
    · cases hn : p.status.toList.isEmpty
      · exact guess_011 h hR ha hc hn
      · exact guess_010 h hR ha hc hn
  · by_cases hc : p.prio = 0
    · cases hn : p.status.toList.isEmpty
      · exact guess_101 h hR ha hc hn
      · exact guess_100 h hR ha hc hn
    · cases hn : p.status.toList.isEmpty
      · exact guess_111 h hR ha hc hn
      · exact guess_110 h hR ha hc hn
end Go.Proofs.YticpebpicdboaaaGreatDoor
