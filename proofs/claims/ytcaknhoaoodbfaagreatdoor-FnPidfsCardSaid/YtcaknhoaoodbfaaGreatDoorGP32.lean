/- slices.EqualFunc over items, impl.SameTrees. -/
import Derived.Test.YtcaknhoaoodbfaaGreatDoorGP31
import Derived.Test.YtcaknhoaoodbfaaGreatDoorGP25
import Derived.Test.YtcaknhoaoodbfaaGreatDoorGP24
import Derived.Test.YtcaknhoaoodbfaaGreatDoorGP1
import Derived.Test.YtcaknhoaoodbfaaGreatDoorGP14
namespace Go.Proofs.YtcaknhoaoodbfaaGreatDoor
open Go.ChangeShapes Go.WideShapes Go.ChangeAt Go.RowKit
set_option linter.unusedVariables false
set_option maxRecDepth 100000 in
set_option maxHeartbeats 1600000 in
theorem equalFunc_any (a a' : Option Addr) (n n' c c' : Nat) (l l' : List It) (w : World) (bb : Bool) (hbb : bb = true ↔ l = l') (h : ItsAt w a n c l) (h' : ItsAt w a' n' c' l') :
    Calls Tryz.prog 128 #[.slice a n c, .slice a' n' c', .func (.func 129) #[] #[]] w fun e w' => e = .returned (.bool bb) ∧ Below w.heap.size w w' := by
  have hm := h.max
  have hm' := h'.max
  have HR := Lib.hid h.row
  have HR' := Lib.hid h'.row
  have HL := Lib.hid h.len
  have HL' := Lib.hid h'.len
  have HBB := Lib.hid hbb
  clear h h' hbb
  by_cases hnn : n = n'
  · subst hnn
    go_enter Tryz.func128, Tryz.ntmps128
    go_wp2
    go_loopw [17] (fun i wr => ∃ k : Nat, k ≤ n ∧ i = .int .i64 k ∧ l.take k = l'.take k ∧ Below w.heap.size w wr) (fun i _ => n - (intOf i).toNat)
    case atStart => exact ⟨0, Nat.zero_le _, rfl, rfl, Below.refl _ _⟩
    case round =>
      obtain ⟨k, hk, rfl, ht, hb⟩ := hrel
      have HT := Lib.hid ht
      clear ht
      by_cases hlt : k < n
      · rcases HR.out with e0 | ⟨b, o, rfl, h4⟩
        · omega
        rcases HR'.out with e0 | ⟨b', o', rfl, h4'⟩
        · omega
        have hi := (h4 k hlt).below hb
        have hi' := (h4' k hlt).below hb
        have d0 := hi.c0
        have d1 := hi.c1
        have d2 := hi.c2
        have d3 := hi.c3
        obtain ⟨a4, n4, c4, d4, hat⟩ := hi.c4
        have e0 := hi'.c0
        have e1 := hi'.c1
        have e2 := hi'.c2
        have e3 := hi'.c3
        obtain ⟨a5, n5, c5, e4, hat'⟩ := hi'.c4
        have hbl := hi.lt
        have hbl' := hi'.lt
        have k1 : (k : Int) < (n : Int) := by omega
        have HE : Hid (l.getD k dIt = l'.getD k dIt → l.take (k + 1) = l'.take (k + 1)) := Lib.hid fun e => by
          rw [take_snocI (by have := HL.out; omega), take_snocI (l := l') (by have := HL'.out; omega), HT.out, e]
        have HN : Hid (l.getD k dIt ≠ l'.getD k dIt → bb = false) := Lib.hid fun e => by
          rw [Bool.eq_false_iff]
          intro hb
          exact e (by rw [HBB.out.1 hb])
        have K := Lib.hid (fun cc hcc W (hb' : Below wr.heap.size wr W) => sameItems_any (l.getD k dIt) (l'.getD k dIt) a4 a5 n4 n5 c4 c5 W cc hcc (hat.below hb') (hat'.below hb'))
        clear hi hi' hat hat' h4 h4'
        generalize l.getD k dIt = x at d0 d1 d2 d3 K HE HN
        generalize l'.getD k dIt = y at e0 e1 e2 e3 K HE HN
        have HB := Lib.hid hb
        clear hb
        obtain ⟨xd, xt, xs, xn, xa⟩ := x
        obtain ⟨yd, yt, ys, yn, ya⟩ := y
        dsimp only at d0 d1 d2 d3 e0 e1 e2 e3 K
        by_cases hne : (⟨xd, xt, xs, xn, xa⟩ : It) = ⟨yd, yt, ys, yn, ya⟩
        · have HE2 := Lib.hid (HE.out hne)
          have K2 := Lib.hid (K.out true (iff_of_true rfl hne))
          clear HE HN K hne
          go_wp2_with (go_at_call 129; refine (K2.out _ (below2 _ _ _)).mono ?_; rintro e w2 ⟨rfl, hb2⟩)
          go_roundw
          case rel => exact ⟨k + 1, by omega, by go_num, HE2.out, below_then HB.out (below_then (below2 _ _ _) hb2)⟩
          case measure => simp [intOf]; omega
        · have HF := HN.out hne
          subst HF
          have K2 := Lib.hid (K.out false (iff_of_false (by decide) hne))
          clear HE HN K hne
          go_wp2_with (go_at_call 129; refine (K2.out _ (below2 _ _ _)).mono ?_; rintro e w2 ⟨rfl, hb2⟩)
          go_ret
          exact ⟨rfl, below_then HB.out (below_then (below2 _ _ _) hb2)⟩
      · obtain rfl : k = n := by omega
        have HF : bb = true := HBB.out.2 (by
          have := HT.out
          rw [List.take_of_length_le (by have := HL.out; omega), List.take_of_length_le (by have := HL'.out; omega)] at this
          exact this)
        subst HF
        go_wp2
        go_ret
        exact ⟨rfl, hb⟩
  · have HF : bb = false := by
      rw [Bool.eq_false_iff]
      exact fun hb => hnn (by rw [← HL.out, ← HL'.out, HBB.out.1 hb])
    subst HF
    have q1 : ((n : Int) != (n' : Int)) = true := by rw [bne_iff_ne]; omega
    have q2 : ((n : Int) == (n' : Int)) = false := by rw [beq_eq_false_iff_ne]; omega
    clear hnn
    go_enter Tryz.func128, Tryz.ntmps128
    go_wp2
    go_ret
    exact ⟨rfl, Below.refl _ _⟩
theorem implSameTrees_any (a a' : Option Addr) (n n' c c' : Nat) (l l' : List It) (w : World) (bb : Bool) (hbb : bb = true ↔ l = l') (h : ItsAt w a n c l) (h' : ItsAt w a' n' c' l') :
    Calls Tryz.prog 64 #[.slice a n c, .slice a' n' c'] w fun e w' => e = .returned (.bool bb) ∧ Below w.heap.size w w' := by
  have K := Lib.hid (fun W (hb : Below w.heap.size w W) => equalFunc_any a a' n n' c c' l l' W bb hbb (h.below hb) (h'.below hb))
  clear h h' hbb
  go_enter Tryz.func64, Tryz.ntmps64
  go_wp2_with fail
  refine (K.out _ (Below.refl _ _)).mono ?_
  rintro e w1 ⟨rfl, hb⟩
  go_wp2
  go_ret
  exact ⟨rfl, hb⟩
set_option maxRecDepth 100000 in
set_option maxHeartbeats 3200000 in
theorem implSamePresences_any (p p' : Pr) (a a' : Option Addr) (n n' c c' : Nat) (w : World) (bb : Bool) (hbb : bb = true ↔ p = p') (h : ItsAt w a n c p.more) (h' : ItsAt w a' n' c' p'.more) :
    Calls Tryz.prog 19 #[.agg #[.int .i64 p.kind, .string p.sender, .string p.goal, .int .i64 p.shown, .string p.status, .int .i64 p.prio, .slice a n c], .agg #[.int .i64 p'.kind, .string p'.sender, .string p'.goal, .int .i64 p'.shown, .string p'.status, .int .i64 p'.prio, .slice a' n' c']] w fun e w' => e = .returned (.bool bb) ∧ Below w.heap.size w w' := by
  have H := Lib.hid (h.below (below2 w (.cells #[.int .i64 p.kind, .string p.sender, .string p.goal, .int .i64 p.shown, .string p.status, .int .i64 p.prio, .slice a n c] 26) (.cells #[.int .i64 p'.kind, .string p'.sender, .string p'.goal, .int .i64 p'.shown, .string p'.status, .int .i64 p'.prio, .slice a' n' c'] 26)))
  have H' := Lib.hid (h'.below (below2 w (.cells #[.int .i64 p.kind, .string p.sender, .string p.goal, .int .i64 p.shown, .string p.status, .int .i64 p.prio, .slice a n c] 26) (.cells #[.int .i64 p'.kind, .string p'.sender, .string p'.goal, .int .i64 p'.shown, .string p'.status, .int .i64 p'.prio, .slice a' n' c'] 26)))
  clear h h'
  obtain ⟨pk, pf, pt, ps, pu, pp, pm⟩ := p
  obtain ⟨qk, qf, qt, qs, qu, qp, qm⟩ := p'
  dsimp only at H H' ⊢
  by_cases hk : pk = qk
  case neg =>
    have HF : Hid (bb = false) := Lib.hid (by rw [Bool.eq_false_iff]; exact fun e => hk (congrArg Pr.kind (hbb.1 e)))
    have q1 : (pk == qk) = false := by rw [beq_eq_false_iff_ne]; exact hk
    clear hk hbb
    rw [HF.out]
    go_enter Tryz.func19, Tryz.ntmps19
    go_wp2
    go_ret
    exact ⟨rfl, below2 w _ _⟩
  subst hk
  by_cases hf : pf = qf
  case neg =>
    have HF : Hid (bb = false) := Lib.hid (by rw [Bool.eq_false_iff]; exact fun e => hf (congrArg Pr.sender (hbb.1 e)))
    have q1 := str_ne hf
    clear hf hbb
    rw [HF.out]
    go_enter Tryz.func19, Tryz.ntmps19
    go_wp2
    go_ret
    exact ⟨rfl, below2 w _ _⟩
  subst hf
  by_cases ht : pt = qt
  case neg =>
    have HF : Hid (bb = false) := Lib.hid (by rw [Bool.eq_false_iff]; exact fun e => ht (congrArg Pr.goal (hbb.1 e)))
    have q1 := str_ne ht
    clear ht hbb
    rw [HF.out]
    go_enter Tryz.func19, Tryz.ntmps19
    go_wp2
    go_ret
    exact ⟨rfl, below2 w _ _⟩
  subst ht
  by_cases hs : ps = qs
  case neg =>
    have HF : Hid (bb = false) := Lib.hid (by rw [Bool.eq_false_iff]; exact fun e => hs (congrArg Pr.shown (hbb.1 e)))
    have q1 : (ps == qs) = false := by rw [beq_eq_false_iff_ne]; exact hs
    clear hs hbb
    rw [HF.out]
    go_enter Tryz.func19, Tryz.ntmps19
    go_wp2
    go_ret
    exact ⟨rfl, below2 w _ _⟩
  subst hs
  by_cases hu : pu = qu
  case neg =>
    have HF : Hid (bb = false) := Lib.hid (by rw [Bool.eq_false_iff]; exact fun e => hu (congrArg Pr.status (hbb.1 e)))
    have q1 := str_ne hu
    clear hu hbb
    rw [HF.out]
    go_enter Tryz.func19, Tryz.ntmps19
    go_wp2
    go_ret
    exact ⟨rfl, below2 w _ _⟩
  subst hu
  by_cases hp : pp = qp
  case neg =>
    have HF : Hid (bb = false) := Lib.hid (by rw [Bool.eq_false_iff]; exact fun e => hp (congrArg Pr.prio (hbb.1 e)))
    have q1 : (pp == qp) = false := by rw [beq_eq_false_iff_ne]; exact hp
    clear hp hbb
    rw [HF.out]
    go_enter Tryz.func19, Tryz.ntmps19
    go_wp2
    go_ret
    exact ⟨rfl, below2 w _ _⟩
  subst hp
  have hmm : bb = true ↔ pm = qm := hbb.trans ⟨fun e => congrArg Pr.more e, fun e => by rw [e]⟩
  have HM := Lib.hid hmm
  clear hbb hmm
  go_enter Tryz.func19, Tryz.ntmps19
  go_wp2_with fail
  refine (implSameTrees_any a a' n n' c c' pm qm _ bb HM.out H.out H'.out).mono ?_
  rintro e w2 ⟨rfl, hb2⟩
  go_wp2
  go_ret
  exact ⟨rfl, below_then (below2 w _ _) hb2⟩
structure B8 (w : World) (b : Nat) (v0 v1 v2 v3 v4 v5 v6 v7 : Value) : Prop where
  lt : b < w.heap.size
  c0 : w.cell? ⟨b, 0, none⟩ = some v0
  c1 : w.cell? ⟨b, 1, none⟩ = some v1
  c2 : w.cell? ⟨b, 2, none⟩ = some v2
  c3 : w.cell? ⟨b, 3, none⟩ = some v3
  c4 : w.cell? ⟨b, 4, none⟩ = some v4
  c5 : w.cell? ⟨b, 5, none⟩ = some v5
  c6 : w.cell? ⟨b, 6, none⟩ = some v6
  c7 : w.cell? ⟨b, 7, none⟩ = some v7
theorem B8.new (w : World) (T : TypeId) (v0 v1 v2 v3 v4 v5 v6 v7 : Value) : B8 (w.alloc (.cells #[v0, v1, v2, v3, v4, v5, v6, v7] T)) w.heap.size v0 v1 v2 v3 v4 v5 v6 v7 := ⟨by simp, by simp, by simp, by simp, by simp, by simp, by simp, by simp, by simp⟩
theorem B8.below {w w' : World} {b : Nat} {v0 v1 v2 v3 v4 v5 v6 v7 : Value} (h : B8 w b v0 v1 v2 v3 v4 v5 v6 v7) (hb : Below w.heap.size w w') : B8 w' b v0 v1 v2 v3 v4 v5 v6 v7 :=
  ⟨Nat.lt_of_lt_of_le h.lt hb.size, (hb.cell (by exact h.lt)).trans h.c0, (hb.cell (by exact h.lt)).trans h.c1, (hb.cell (by exact h.lt)).trans h.c2, (hb.cell (by exact h.lt)).trans h.c3, (hb.cell (by exact h.lt)).trans h.c4, (hb.cell (by exact h.lt)).trans h.c5, (hb.cell (by exact h.lt)).trans h.c6, (hb.cell (by exact h.lt)).trans h.c7⟩
set_option maxRecDepth 100000 in
set_option maxHeartbeats 3200000 in
theorem lwOne_true (cd : Int) (p : Pr) (a1 a2 : Option Addr) (n1 n2 c1 c2 : Nat) (w : World) (h1 : ItsAt w a1 n1 c1 p.more) (h2 : ItsAt w a2 n2 c2 p.more) :
    Calls Tryz.prog 17 #[.agg #[.int .i64 cd, .int .i64 p.kind, .string p.sender, .string p.goal, .int .i64 p.shown, .string p.status, .int .i64 p.prio, .slice a1 n1 c1], .agg #[.int .i64 cd, .int .i64 p.kind, .string p.sender, .string p.goal, .int .i64 p.shown, .string p.status, .int .i64 p.prio, .slice a2 n2 c2]] w fun e w' => e = .returned (.bool true) ∧ Below w.heap.size w w' := by
  have K1 := Lib.hid (fun W (hb : Below w.heap.size w W) => implSamePresences_any p p a1 a2 n1 n2 c1 c2 W true (by simp) (h1.below hb) (h2.below hb))
  have K2 := Lib.hid (fun W (hb : Below w.heap.size w W) => specSamePresences_any p p a1 a2 n1 n2 c1 c2 W true (by simp) (h1.below hb) (h2.below hb))
  have hB := below2 w (.cells #[.int .i64 cd, .int .i64 p.kind, .string p.sender, .string p.goal, .int .i64 p.shown, .string p.status, .int .i64 p.prio, .slice a1 n1 c1] 33) (.cells #[.int .i64 cd, .int .i64 p.kind, .string p.sender, .string p.goal, .int .i64 p.shown, .string p.status, .int .i64 p.prio, .slice a2 n2 c2] 33)
  have P1 := Lib.hid ((B8.new w 33 (.int .i64 cd) (.int .i64 p.kind) (.string p.sender) (.string p.goal) (.int .i64 p.shown) (.string p.status) (.int .i64 p.prio) (.slice a1 n1 c1)).below (below1 _ (.cells #[.int .i64 cd, .int .i64 p.kind, .string p.sender, .string p.goal, .int .i64 p.shown, .string p.status, .int .i64 p.prio, .slice a2 n2 c2] 33)))
  have ez : (w.alloc (.cells #[.int .i64 cd, .int .i64 p.kind, .string p.sender, .string p.goal, .int .i64 p.shown, .string p.status, .int .i64 p.prio, .slice a1 n1 c1] 33)).heap.size = w.heap.size + 1 := by simp
  have P2 := B8.new (w.alloc (.cells #[.int .i64 cd, .int .i64 p.kind, .string p.sender, .string p.goal, .int .i64 p.shown, .string p.status, .int .i64 p.prio, .slice a1 n1 c1] 33)) 33 (.int .i64 cd) (.int .i64 p.kind) (.string p.sender) (.string p.goal) (.int .i64 p.shown) (.string p.status) (.int .i64 p.prio) (.slice a2 n2 c2)
  rw [ez] at P2
  have P2 := Lib.hid P2
  clear h1 h2 ez
  go_enter Tryz.func17, Tryz.ntmps17
  go_wp2_with fail
  refine (K1.out _ hB).mono ?_
  rintro e w1 ⟨rfl, hb⟩
  have Q1 := P1.out.below hb
  have Q2 := P2.out.below hb
  have HB := Lib.hid (below_then hB hb)
  have u0 := Q1.c0
  have v0 := Q2.c0
  have u1 := Q1.c1
  have v1 := Q2.c1
  have u2 := Q1.c2
  have v2 := Q2.c2
  have u3 := Q1.c3
  have v3 := Q2.c3
  have u4 := Q1.c4
  have v4 := Q2.c4
  have u5 := Q1.c5
  have v5 := Q2.c5
  have u6 := Q1.c6
  have v6 := Q2.c6
  have u7 := Q1.c7
  have v7 := Q2.c7
  clear hb hB P1 P2 K1 Q1 Q2
  go_wp2_with fail
  refine (K2.out _ HB.out).mono ?_
  rintro e w2 ⟨rfl, hb⟩
  have HB2 := Lib.hid (below_then HB.out hb)
  clear hb
  go_wp2
  go_ret
  exact ⟨rfl, HB2.out⟩
set_option maxHeartbeats 1600000 in
theorem lwTree_true (cd : Int) (a1 a2 : Option Addr) (n1 n2 c1 c2 : Nat) (l : List It) (w : World) (h1 : ItsAt w a1 n1 c1 l) (h2 : ItsAt w a2 n2 c2 l) :
    Calls Tryz.prog 15 #[.agg #[.int .i64 cd, .slice a1 n1 c1], .agg #[.int .i64 cd, .slice a2 n2 c2]] w fun e w' => e = .returned (.bool true) ∧ Below w.heap.size w w' := by
  have H1 := Lib.hid h1
  have H2 := Lib.hid h2
  clear h1 h2
  go_enter Tryz.func15, Tryz.ntmps15
  go_wp2_with fail
  refine (implSameTrees_any a1 a2 n1 n2 c1 c2 l l _ true (by simp) (H1.out.below (below2 _ _ _)) (H2.out.below (below2 _ _ _))).mono ?_
  rintro e w1 ⟨rfl, hb⟩
  have V1 := (((Var2.new w 29 cd (.slice a1 n1 c1)).alloc (.cells #[.int .i64 cd, .slice a2 n2 c2] 29)).below hb).c1
  have V2 := ((Var2.new (w.alloc (.cells #[.int .i64 cd, .slice a1 n1 c1] 29)) 29 cd (.slice a2 n2 c2)).below hb).c1
  have ez : (w.alloc (.cells #[.int .i64 cd, .slice a1 n1 c1] 29)).heap.size = w.heap.size + 1 := by simp
  rw [ez] at V2
  have HB := Lib.hid (below_then (below2 w _ _) hb)
  clear hb ez
  go_wp2_with fail
  refine (specSameTrees_any a1 a2 n1 n2 c1 c2 l l _ true (by simp) (H1.out.below HB.out) (H2.out.below HB.out)).mono ?_
  rintro e w2 ⟨rfl, nd, rfl⟩
  go_wp2
  go_ret
  exact ⟨rfl, below_drewN HB.out _⟩
set_option linter.unusedSimpArgs false
theorem GrowIts.base9 {w : World} {B B' : Nat} {v : Value} {n : Nat} {l : List It} {A : Nat → Option Addr} {N C : Nat → Nat} (h : GrowIts w B v n l A N C) (hle : B' ≤ B) : GrowIts w B' v n l A N C :=
  ⟨owns_mono h.row hle, fun i hi => ⟨⟨(h.ats i hi).1.ats, (h.ats i hi).1.own.imp id fun ⟨b, g1, g2, g3, g4⟩ => ⟨b, g1, by omega, g3, g4⟩⟩, (h.ats i hi).2⟩, h.apart, h.each⟩
theorem OwnAts.later2 {w w' : World} {lo : Nat} {a : Option Addr} {n c : Nat} {l : List At} (h : OwnAts w lo w.heap.size a n c l) (hb : Below w.heap.size w w') : OwnAts w' lo w'.heap.size a n c l := h.later hb hb.size
theorem grow_lit {w : World} {B : Nat} (l : List It) (A : Nat → Option Addr) (N C : Nat → Nat) (arr : Array Value) (harr : arr.toList = flatI l A N C) (hB : B ≤ w.heap.size) (hk : l.length ≤ 1000)
    (hA : ∀ i, i < l.length → OwnAts w B w.heap.size (A i) (N i) (C i) (l.getD i dIt).attrs ∧ (A i = none → C i = 0))
    (hE : ∀ i j, i < l.length → j < l.length → i ≠ j → ∀ x y, A i = some x → A j = some y → N i ≠ 0 → N j ≠ 0 → x.block ≠ y.block) :
    GrowIts (w.alloc (.cells arr 67)) B (.slice (some ⟨w.heap.size, 0, none⟩) l.length l.length) l.length l A N C := by
  have hsz : arr.size = l.length * 5 := by rw [← Array.length_toList, harr, flatI_length]
  have hl := World.ownsRow_lit (base := B) (e := 67) (size := 5) w arr l.length hB (by unfold maxLen; omega) hsz
  refine ⟨by rw [← harr]; exact hl, fun i hi => ⟨?_, (hA i hi).2⟩, fun i hi x hx hne => ?_, hE⟩
  · exact (hA i hi).1.later (below1 w _) (by simp)
  · have g := (hA i hi).1.in hx hne
    simp only [Value.ownBlock]
    intro e
    simp only [Option.some.injEq] at e
    omega
def five (a b : Option Addr) (i : Nat) : Option Addr := if i = 0 then a else if i = 1 then b else none
def fiveN (i : Nat) : Nat := if i = 0 then 1 else if i = 1 then 1 else 0
def headW (f bw : ByteArray) : List It := [rootP8 f, elemI 1 pidfSp tupleNm [⟨idNm, tT⟩], elemI 2 pidfSp stNm [], elemI 3 pidfSp basicNm [], textI 4 bw]
theorem grow_head {W : World} {B : Nat} (f bw : ByteArray) (k1 k2 : Nat) (hB : B ≤ W.heap.size) (O1 : OwnAts W B W.heap.size (some ⟨k1, 0, none⟩) 1 1 [⟨⟨#[101, 110, 116, 105, 116, 121]⟩, ⟨#[112, 114, 101, 115, 58]⟩ ++ f⟩]) (O2 : OwnAts W B W.heap.size (some ⟨k2, 0, none⟩) 1 1 [⟨⟨#[105, 100]⟩, ⟨#[116]⟩⟩]) (hne : k1 ≠ k2) :
    GrowIts (W.alloc (.cells #[.int .i64 0, .string ⟨#[]⟩, .string ⟨#[117, 114, 110, 58, 105, 101, 116, 102, 58, 112, 97, 114, 97, 109, 115, 58, 120, 109, 108, 58, 110, 115, 58, 112, 105, 100, 102]⟩, .string ⟨#[112, 114, 101, 115, 101, 110, 99, 101]⟩, .slice (some ⟨k1, 0, none⟩) 1 1, .int .i64 1, .string ⟨#[]⟩, .string ⟨#[117, 114, 110, 58, 105, 101, 116, 102, 58, 112, 97, 114, 97, 109, 115, 58, 120, 109, 108, 58, 110, 115, 58, 112, 105, 100, 102]⟩, .string ⟨#[116, 117, 112, 108, 101]⟩, .slice (some ⟨k2, 0, none⟩) 1 1, .int .i64 2, .string ⟨#[]⟩, .string ⟨#[117, 114, 110, 58, 105, 101, 116, 102, 58, 112, 97, 114, 97, 109, 115, 58, 120, 109, 108, 58, 110, 115, 58, 112, 105, 100, 102]⟩, .string ⟨#[115, 116, 97, 116, 117, 115]⟩, .slice none 0 0, .int .i64 3, .string ⟨#[]⟩, .string ⟨#[117, 114, 110, 58, 105, 101, 116, 102, 58, 112, 97, 114, 97, 109, 115, 58, 120, 109, 108, 58, 110, 115, 58, 112, 105, 100, 102]⟩, .string ⟨#[98, 97, 115, 105, 99]⟩, .slice none 0 0, .int .i64 4, .string bw, .string ⟨#[]⟩, .string ⟨#[]⟩, .slice none 0 0] 67)) B (.slice (some ⟨W.heap.size, 0, none⟩) 5 5) 5 (headW f bw) (five (some ⟨k1, 0, none⟩) (some ⟨k2, 0, none⟩)) fiveN fiveN := by
  refine grow_lit (headW f bw) _ _ _ _ ?_ hB (by show (5 : Nat) ≤ 1000; decide) (fun i hi => ?_) (fun i j hi hj hij x y hx hy hnx hny => ?_)
  · show _ = List.map (cellI (headW f bw) _ _ _) (List.range 25)
    rw [show List.range 25 = [0, 1, 2, 3, 4, 5, 6, 7, 8, 9, 10, 11, 12, 13, 14, 15, 16, 17, 18, 19, 20, 21, 22, 23, 24] from by decide]
    rfl
  · match i, hi with
    | 0, _ => exact ⟨O1, fun e => by cases e⟩
    | 1, _ => exact ⟨O2, fun e => by cases e⟩
    | 2, _ => exact ⟨bareAts _ _ _, fun _ => rfl⟩
    | 3, _ => exact ⟨bareAts _ _ _, fun _ => rfl⟩
    | 4, _ => exact ⟨bareAts _ _ _, fun _ => rfl⟩
  · have h5 : ∀ i, fiveN i ≠ 0 → i = 0 ∨ i = 1 := fun i h => by
      unfold fiveN at h
      split at h
      · exact .inl (by assumption)
      · split at h
        · exact .inr (by assumption)
        · exact absurd rfl h
    rcases h5 i hnx with rfl | rfl <;> rcases h5 j hny with rfl | rfl
    · exact absurd rfl hij
    · simp only [five, if_true, Option.some.injEq] at hx hy
      simp at hy
      subst hx; subst hy
      exact hne
    · simp only [five, if_true, Option.some.injEq] at hx hy
      simp at hx
      subst hx; subst hy
      exact hne.symm
    · exact absurd rfl hij
end Go.Proofs.YtcaknhoaoodbfaaGreatDoor
