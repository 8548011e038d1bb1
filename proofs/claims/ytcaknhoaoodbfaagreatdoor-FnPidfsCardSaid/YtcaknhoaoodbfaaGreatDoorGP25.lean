/- spec.SamePresences. -/
import Derived.Test.YtcaknhoaoodbfaaGreatDoorGP11
import Derived.Test.YtcaknhoaoodbfaaGreatDoorGP24
import Derived.Test.YtcaknhoaoodbfaaGreatDoorGP23
import Derived.Test.YtcaknhoaoodbfaaGreatDoorGP0
import Derived.Maps.AppendAt
namespace Go.Proofs.YtcaknhoaoodbfaaGreatDoor
open Go.ChangeShapes Go.WideShapes Go.ChangeAt Go.RowKit
set_option linter.unusedVariables false
theorem Pr.eq {x y : Pr} (h0 : x.kind = y.kind) (h1 : x.sender = y.sender) (h2 : x.goal = y.goal) (h3 : x.shown = y.shown) (h4 : x.status = y.status) (h5 : x.prio = y.prio) (h6 : x.more = y.more) : x = y := by cases x; cases y; simp_all
theorem str_ne {s t : ByteArray} (h : s ≠ t) : (s.toList == t.toList) = false := by
  rw [beq_eq_false_iff_ne]
  intro e
  rw [ByteArray.toList_eq, ByteArray.toList_eq] at e
  have h2 := Array.toList_inj.1 e
  exact h (by cases s; cases t; exact congrArg ByteArray.mk h2)
set_option maxRecDepth 100000 in
set_option maxHeartbeats 3200000 in
theorem specSamePresences_any (p p' : Pr) (a a' : Option Addr) (n n' c c' : Nat) (w : World) (bb : Bool) (hbb : bb = true ↔ p = p') (h : ItsAt w a n c p.more) (h' : ItsAt w a' n' c' p'.more) :
    Calls Tryz.prog 20 #[.agg #[.int .i64 p.kind, .string p.sender, .string p.goal, .int .i64 p.shown, .string p.status, .int .i64 p.prio, .slice a n c], .agg #[.int .i64 p'.kind, .string p'.sender, .string p'.goal, .int .i64 p'.shown, .string p'.status, .int .i64 p'.prio, .slice a' n' c']] w fun e w' => e = .returned (.bool bb) ∧ Below w.heap.size w w' := by
  have H := Lib.hid (h.below (below2 w (.cells #[.int .i64 p.kind, .string p.sender, .string p.goal, .int .i64 p.shown, .string p.status, .int .i64 p.prio, .slice a n c] 26) (.cells #[.int .i64 p'.kind, .string p'.sender, .string p'.goal, .int .i64 p'.shown, .string p'.status, .int .i64 p'.prio, .slice a' n' c'] 26)))
  have H' := Lib.hid (h'.below (below2 w (.cells #[.int .i64 p.kind, .string p.sender, .string p.goal, .int .i64 p.shown, .string p.status, .int .i64 p.prio, .slice a n c] 26) (.cells #[.int .i64 p'.kind, .string p'.sender, .string p'.goal, .int .i64 p'.shown, .string p'.status, .int .i64 p'.prio, .slice a' n' c'] 26)))
  clear h h'
  obtain ⟨pk, pf, pt, ps, pu, pp, pm⟩ := p
  obtain ⟨qk, qf, qt, qs, qu, qp, qm⟩ := p'
  dsimp only at H H' ⊢
  by_cases hk : pk = qk
  case neg =>
    have HF : Hid (bb = false) := Lib.hid (by rw [Bool.eq_false_iff]; exact fun e => hk (congrArg Pr.kind (hbb.1 e)))
    have q1 : (pk == qk) = false := by rw [beq_eq_false_iff_ne]; exact hk
    clear hk hbb
    rw [HF.out]
    go_enter Tryz.func20, Tryz.ntmps20
    go_wp2
    go_ret
    exact ⟨rfl, below2 w _ _⟩
  subst hk
  by_cases hf : pf = qf
  case neg =>
    have HF : Hid (bb = false) := Lib.hid (by rw [Bool.eq_false_iff]; exact fun e => hf (congrArg Pr.sender (hbb.1 e)))
    have q1 := str_ne hf
    clear hf hbb
    rw [HF.out]
    go_enter Tryz.func20, Tryz.ntmps20
    go_wp2
    go_ret
    exact ⟨rfl, below2 w _ _⟩
  subst hf
  by_cases ht : pt = qt
  case neg =>
    have HF : Hid (bb = false) := Lib.hid (by rw [Bool.eq_false_iff]; exact fun e => ht (congrArg Pr.goal (hbb.1 e)))
    have q1 := str_ne ht
    clear ht hbb
    rw [HF.out]
    go_enter Tryz.func20, Tryz.ntmps20
    go_wp2
    go_ret
    exact ⟨rfl, below2 w _ _⟩
  subst ht
  by_cases hs : ps = qs
  case neg =>
    have HF : Hid (bb = false) := Lib.hid (by rw [Bool.eq_false_iff]; exact fun e => hs (congrArg Pr.shown (hbb.1 e)))
    have q1 : (ps == qs) = false := by rw [beq_eq_false_iff_ne]; exact hs
    clear hs hbb
    rw [HF.out]
    go_enter Tryz.func20, Tryz.ntmps20
    go_wp2
    go_ret
    exact ⟨rfl, below2 w _ _⟩
  subst hs
  by_cases hu : pu = qu
  case neg =>
    have HF : Hid (bb = false) := Lib.hid (by rw [Bool.eq_false_iff]; exact fun e => hu (congrArg Pr.status (hbb.1 e)))
    have q1 := str_ne hu
    clear hu hbb
    rw [HF.out]
    go_enter Tryz.func20, Tryz.ntmps20
    go_wp2
    go_ret
    exact ⟨rfl, below2 w _ _⟩
  subst hu
  by_cases hp : pp = qp
  case neg =>
    have HF : Hid (bb = false) := Lib.hid (by rw [Bool.eq_false_iff]; exact fun e => hp (congrArg Pr.prio (hbb.1 e)))
    have q1 : (pp == qp) = false := by rw [beq_eq_false_iff_ne]; exact hp
    clear hp hbb
    rw [HF.out]
    go_enter Tryz.func20, Tryz.ntmps20
    go_wp2
    go_ret
    exact ⟨rfl, below2 w _ _⟩
  subst hp
  have hmm : bb = true ↔ pm = qm := hbb.trans ⟨fun e => congrArg Pr.more e, fun e => by rw [e]⟩
  have HM := Lib.hid hmm
  clear hbb hmm
  go_enter Tryz.func20, Tryz.ntmps20
  go_wp2_with fail
  refine (specSameTrees_any a a' n n' c c' pm qm _ bb HM.out H.out H'.out).mono ?_
  rintro e w2 ⟨rfl, nd, rfl⟩
  go_wp2
  go_ret
  exact ⟨rfl, below_drewN (below2 w _ _) nd⟩
set_option linter.unusedSimpArgs false
theorem ownPr_of {p : Pr} (h : projCode p = 0) (hp : proj p = p) : OwnPr p := by
  have hk : presCode p = 0 := by
    unfold projCode at h
    split at h
    · rename_i h1; exact absurd h h1
    · rename_i h1; omega
  have h3 : askB (decide (1 < p.kind)) p.sender.toList.isEmpty = false := by
    unfold projCode at h
    rw [if_neg (by omega)] at h
    split at h
    · omega
    · rename_i h1
      simpa using h1
  unfold askB at h3
  rw [Bool.or_eq_false_iff, decide_eq_false_iff_not] at h3
  have hb := presCode_kind hk
  have hin : inB p.shown 0 4 = true ∧ inB p.prio (-128) 127 = true := by
    unfold presCode at hk
    split at hk
    · omega
    · rename_i h1
      rw [Bool.not_eq_false, Bool.and_eq_true, Bool.and_eq_true] at h1
      exact ⟨h1.1.2, h1.2⟩
  have e1 : sharedS p.shown = p.shown := congrArg Pr.shown hp
  have e2 : prioS p.prio = p.prio := congrArg Pr.prio hp
  have e3 : ByteArray.empty = p.goal := congrArg Pr.goal hp
  have e4 : [] = p.more := congrArg Pr.more hp
  obtain ⟨i1, i2⟩ := hin
  simp only [inB, decide_eq_true_eq] at i1 i2
  refine ⟨by omega, ?_, ?_, e3.symm, e4.symm, ?_⟩
  · unfold sharedS at e1
    split at e1
    · omega
    · split at e1
      · omega
      · omega
  · unfold prioS at e2
    split at e2 <;> omega
  · have h4 := h3.2
    rcases Nat.eq_zero_or_pos p.sender.size with h5 | h5
    · rw [ByteArray.toList_eq] at h4
      have : p.sender.data.toList = [] := List.eq_nil_of_length_eq_zero (by simpa using h5)
      rw [this] at h4
      cases h4
    · exact h5
theorem behind_pres (f : ByteArray) (h : 0 < f.size) : behind5 (presP ++ f) = f := by
  have hs : (presP ++ f).size = 5 + f.size := by rw [ByteArray.size_append]; rfl
  unfold behind5
  rw [if_pos (by omega)]
  apply ByteArray.ext
  apply Array.ext'
  rw [Lib.extract_to_end, ByteArray.data_append, Array.toList_append]
  show (presP.data.toList ++ f.data.toList).drop 5 = _
  rw [List.drop_append_of_le_length (by decide)]
  rfl
theorem off_pres (f : ByteArray) : off5 (presP ++ f) = f := by
  unfold off5
  apply ByteArray.ext
  apply Array.ext'
  rw [ByteArray.data_append, Array.toList_append]
  show Lib.trimPrefix (presP.data.toList ++ f.data.toList) presP.data.toList = f.data.toList
  unfold Lib.trimPrefix Lib.hasPrefix
  simp
def dig4 (m : Nat) : ByteArray := ((strOfNums [48 + ((m / 10 / 10 / 10 : Nat) : Int)] ++ strOfNums [48 + ((m / 10 / 10 : Nat) : Int) % 10]) ++ strOfNums [48 + ((m / 10 : Nat) : Int) % 10]) ++ strOfNums [48 + (m : Int) % 10]
theorem digT_4 {m : Nat} (h1 : 1000 ≤ m) (h2 : m < 10000) : digT m = dig4 m := by
  rw [digT_big (n := m) (by omega), digT_big (n := m / 10) (by omega), digT_big (n := m / 10 / 10) (by omega), digT_small (n := m / 10 / 10 / 10) (by omega)]
  rfl
def shareC (n : Nat) : ByteArray := strOfNums [48 + ((n / 1000 : Nat) : Int)] ++ ⟨#[46]⟩ ++ behindT (dig4 (1000 + n % 1000))
theorem shareT_C {n : Nat} (h : n ≤ 1000) : shareT n = shareC n := by
  unfold shareT shareC
  rw [digT_small (n := n / 1000) (by omega), digT_4 (by omega) (by omega)]
def thouN (k : Nat) : Nat := (1000 * k + 63) / 127
theorem share_is {k : Nat} (h : k ≤ 127) : shareText (thouVal ((k : Nat) : Int)) = shareC (thouN k) := by
  have e : thouVal ((k : Nat) : Int) = ((thouN k : Nat) : Int) := by
    unfold thouVal thouN inB
    rw [if_pos (by simp; omega)]
    omega
  have hle : thouN k ≤ 1000 := by unfold thouN; omega
  rw [e]
  unfold shareText inB
  rw [if_pos (by simp; omega), Int.toNat_natCast, shareT_C hle]
theorem back_all : (List.range 128).all (fun k => decide (prioVal (read8 (shareC (thouN k))) = ((k : Nat) : Int))) = true := by decide +kernel
theorem share_back (k : Nat) (hk : k ≤ 127) : prioVal (read8 (shareText (thouVal ((k : Nat) : Int)))) = ((k : Nat) : Int) := by
  rw [share_is hk]
  have := List.all_eq_true.1 back_all k (List.mem_range.2 (by omega))
  simpa using this
theorem share_with (k : Nat) (h1 : 1 ≤ k) (hk : k ≤ 127) : prioWith (shareText (thouVal ((k : Nat) : Int))) = ((k : Nat) : Int) := by
  refine prioWith_at h1 hk (fun j hj1 hj2 => str_ne fun e => ?_) (by simp)
  have h2 := share_back j (by omega)
  rw [e, share_back k hk] at h2
  omega
theorem empty_of {s : ByteArray} (h : s.toList.isEmpty = true) : s = ByteArray.empty := by
  rw [ByteArray.toList_eq] at h
  apply ByteArray.ext
  apply Array.ext'
  rw [List.isEmpty_iff.1 h]
  rfl
theorem pidf_000 {p : Pr} (ha : p.shown = 0) (hc : p.prio = 0) (hn : p.status.toList.isEmpty = true) : pidfL p = [rootP8 p.sender, elemI 1 pidfSp tupleNm [⟨idNm, tT⟩], elemI 2 pidfSp stNm [], elemI 3 pidfSp basicNm [], textI 4 (basicW p.kind)] := by
  unfold pidfL headP8 actsP8 contP8 noteP8
  rw [if_pos ha, if_pos hc, if_pos hn]
  rfl
theorem pidf_001 {p : Pr} (ha : p.shown = 0) (hc : p.prio = 0) (hn : p.status.toList.isEmpty = false) : pidfL p = [rootP8 p.sender, elemI 1 pidfSp tupleNm [⟨idNm, tT⟩], elemI 2 pidfSp stNm [], elemI 3 pidfSp basicNm [], textI 4 (basicW p.kind), elemI 2 pidfSp noteNm [], textI 3 p.status] := by
  unfold pidfL headP8 actsP8 contP8 noteP8
  rw [if_pos ha, if_pos hc, if_neg (by rw [hn]; simp)]
  rfl
theorem pidf_010 {p : Pr} (ha : p.shown = 0) (hc : p.prio ≠ 0) (hn : p.status.toList.isEmpty = true) : pidfL p = [rootP8 p.sender, elemI 1 pidfSp tupleNm [⟨idNm, tT⟩], elemI 2 pidfSp stNm [], elemI 3 pidfSp basicNm [], textI 4 (basicW p.kind), elemI 2 pidfSp contNm [⟨prioKey, shareText (thouVal p.prio)⟩], textI 3 (xmppP ++ p.sender)] := by
  unfold pidfL headP8 actsP8 contP8 noteP8
  rw [if_pos ha, if_neg hc, if_pos hn]
  rfl
theorem pidf_011 {p : Pr} (ha : p.shown = 0) (hc : p.prio ≠ 0) (hn : p.status.toList.isEmpty = false) : pidfL p = [rootP8 p.sender, elemI 1 pidfSp tupleNm [⟨idNm, tT⟩], elemI 2 pidfSp stNm [], elemI 3 pidfSp basicNm [], textI 4 (basicW p.kind), elemI 2 pidfSp contNm [⟨prioKey, shareText (thouVal p.prio)⟩], textI 3 (xmppP ++ p.sender), elemI 2 pidfSp noteNm [], textI 3 p.status] := by
  unfold pidfL headP8 actsP8 contP8 noteP8
  rw [if_pos ha, if_neg hc, if_neg (by rw [hn]; simp)]
  rfl
theorem pidf_100 {p : Pr} (ha : p.shown ≠ 0) (hc : p.prio = 0) (hn : p.status.toList.isEmpty = true) : pidfL p = [rootP8 p.sender, elemI 1 pidfSp tupleNm [⟨idNm, tT⟩], elemI 2 pidfSp stNm [], elemI 3 pidfSp basicNm [], textI 4 (basicW p.kind), elemI 2 rpidSp actNm [], elemI 3 rpidSp (actW p.shown) []] := by
  unfold pidfL headP8 actsP8 contP8 noteP8
  rw [if_neg ha, if_pos hc, if_pos hn]
  rfl
theorem pidf_101 {p : Pr} (ha : p.shown ≠ 0) (hc : p.prio = 0) (hn : p.status.toList.isEmpty = false) : pidfL p = [rootP8 p.sender, elemI 1 pidfSp tupleNm [⟨idNm, tT⟩], elemI 2 pidfSp stNm [], elemI 3 pidfSp basicNm [], textI 4 (basicW p.kind), elemI 2 rpidSp actNm [], elemI 3 rpidSp (actW p.shown) [], elemI 2 pidfSp noteNm [], textI 3 p.status] := by
  unfold pidfL headP8 actsP8 contP8 noteP8
  rw [if_neg ha, if_pos hc, if_neg (by rw [hn]; simp)]
  rfl
theorem pidf_110 {p : Pr} (ha : p.shown ≠ 0) (hc : p.prio ≠ 0) (hn : p.status.toList.isEmpty = true) : pidfL p = [rootP8 p.sender, elemI 1 pidfSp tupleNm [⟨idNm, tT⟩], elemI 2 pidfSp stNm [], elemI 3 pidfSp basicNm [], textI 4 (basicW p.kind), elemI 2 rpidSp actNm [], elemI 3 rpidSp (actW p.shown) [], elemI 2 pidfSp contNm [⟨prioKey, shareText (thouVal p.prio)⟩], textI 3 (xmppP ++ p.sender)] := by
  unfold pidfL headP8 actsP8 contP8 noteP8
  rw [if_neg ha, if_neg hc, if_pos hn]
  rfl
theorem pidf_111 {p : Pr} (ha : p.shown ≠ 0) (hc : p.prio ≠ 0) (hn : p.status.toList.isEmpty = false) : pidfL p = [rootP8 p.sender, elemI 1 pidfSp tupleNm [⟨idNm, tT⟩], elemI 2 pidfSp stNm [], elemI 3 pidfSp basicNm [], textI 4 (basicW p.kind), elemI 2 rpidSp actNm [], elemI 3 rpidSp (actW p.shown) [], elemI 2 pidfSp contNm [⟨prioKey, shareText (thouVal p.prio)⟩], textI 3 (xmppP ++ p.sender), elemI 2 pidfSp noteNm [], textI 3 p.status] := by
  unfold pidfL headP8 actsP8 contP8 noteP8
  rw [if_neg ha, if_neg hc, if_neg (by rw [hn]; simp)]
  rfl
theorem guess_000 {p : Pr} (h : OwnPr p) (hR : Rises (pidfL p)) (ha : p.shown = 0) (hc : p.prio = 0) (hn : p.status.toList.isEmpty = true) : guessM (pidfL p) = p ∧ guessP (pidfL p) = p := by
  have e := pidf_000 ha hc hn
  obtain ⟨S, hS⟩ : ∃ S, pidfL p = S := ⟨_, rfl⟩
  rw [hS] at e hR ⊢
  have hl : S.length = 5 := by rw [e]; rfl
  have g0 : S.getD 0 dIt = rootP8 p.sender := by rw [e]; rfl
  have g1 : S.getD 1 dIt = elemI 1 pidfSp tupleNm [⟨idNm, tT⟩] := by rw [e]; rfl
  have g2 : S.getD 2 dIt = elemI 2 pidfSp stNm [] := by rw [e]; rfl
  have g3 : S.getD 3 dIt = elemI 3 pidfSp basicNm [] := by rw [e]; rfl
  have g4 : S.getD 4 dIt = textI 4 (basicW p.kind) := by rw [e]; rfl
  have d0 : dp S 0 = 0 := by unfold dp; rw [g0]; rfl
  have d1 : dp S 1 = 1 := by unfold dp; rw [g1]; rfl
  have d2 : dp S 2 = 2 := by unfold dp; rw [g2]; rfl
  have d3 : dp S 3 = 3 := by unfold dp; rw [g3]; rfl
  have d4 : dp S 4 = 4 := by unfold dp; rw [g4]; rfl
  have t3 : txtT (textL S 3) = basicW p.kind := by rw [text_one (by omega) (by rw [d4, d3]; rfl) (.inl (by rw [hl])) (by rw [g4]; rfl), g4]; rfl
  have v0 : valT (valueL (rootP8 p.sender).attrs entityNm) = presP ++ p.sender := by
    unfold valueL rootP8 elemI
    rw [List.find?_cons_of_pos (by simp)]
    rfl
  constructor
  · unfold guessM
    rw [hl]
    have s0 : upM S 0 = { dPr with sender := p.sender } := by
      show startM S = _
      unfold startM
      rw [g0, v0, behind_pres _ h.sz]
    have s1 : upM S 1 = { dPr with sender := p.sender } := by
      show stepM S 0 (upM S 0) = _
      unfold stepM
      rw [g0, s0]
      simp only [show (rootP8 p.sender).name = presNm from rfl]
      rw [if_neg (show ¬ presNm = basicNm by decide), if_neg (show ¬ presNm = awayNm by decide), if_neg (show ¬ presNm = busyNm by decide), if_neg (show ¬ presNm = noteNm by decide), if_neg (show ¬ presNm = contNm by decide)]
    have s2 : upM S 2 = { dPr with sender := p.sender } := by
      show stepM S 1 (upM S 1) = _
      unfold stepM
      rw [g1, s1]
      simp only [show (elemI 1 pidfSp tupleNm [⟨idNm, tT⟩]).name = tupleNm from rfl]
      rw [if_neg (show ¬ tupleNm = basicNm by decide), if_neg (show ¬ tupleNm = awayNm by decide), if_neg (show ¬ tupleNm = busyNm by decide), if_neg (show ¬ tupleNm = noteNm by decide), if_neg (show ¬ tupleNm = contNm by decide)]
    have s3 : upM S 3 = { dPr with sender := p.sender } := by
      show stepM S 2 (upM S 2) = _
      unfold stepM
      rw [g2, s2]
      simp only [show (elemI 2 pidfSp stNm []).name = stNm from rfl]
      rw [if_neg (show ¬ stNm = basicNm by decide), if_neg (show ¬ stNm = awayNm by decide), if_neg (show ¬ stNm = busyNm by decide), if_neg (show ¬ stNm = noteNm by decide), if_neg (show ¬ stNm = contNm by decide)]
    have s4 : upM S 4 = { dPr with sender := p.sender, kind := p.kind } := by
      show stepM S 3 (upM S 3) = _
      unfold stepM
      rw [g3, if_pos (show (elemI 3 pidfSp basicNm []).name = basicNm from rfl), t3, s3]
      rcases h.kd with hk | hk
      · rw [hk, if_neg (by decide)]; rfl
      · rw [hk, if_pos (by decide)]
    have s5 : upM S 5 = { dPr with sender := p.sender, kind := p.kind } := by
      show stepM S 4 (upM S 4) = _
      unfold stepM
      rw [g4, s4]
      simp only [show (textI 4 (basicW p.kind)).name = (⟨#[]⟩ : ByteArray) from rfl]
      rw [if_neg (show ¬ (⟨#[]⟩ : ByteArray) = basicNm by decide), if_neg (show ¬ (⟨#[]⟩ : ByteArray) = awayNm by decide), if_neg (show ¬ (⟨#[]⟩ : ByteArray) = busyNm by decide), if_neg (show ¬ (⟨#[]⟩ : ByteArray) = noteNm by decide), if_neg (show ¬ (⟨#[]⟩ : ByteArray) = contNm by decide)]
    rw [s5]
    obtain ⟨qk, qf, qt, qs, qu, qp, qm⟩ := p
    have e1 := h.gl
    have e2 := h.mo
    dsimp only at e1 e2
    subst e1
    subst e2
    obtain rfl : qs = 0 := ha
    obtain rfl : qp = 0 := hc
    obtain rfl := empty_of hn
    rfl
  · have hst : guessP S = upP S 5 := by
      have n0 : isNote S 0 = false := decide_eq_false (by rw [g0]; show ¬ presNm = noteNm; decide)
      have n1 : isNote S 1 = false := decide_eq_false (by rw [g1]; show ¬ tupleNm = noteNm; decide)
      have n2 : isNote S 2 = false := decide_eq_false (by rw [g2]; show ¬ stNm = noteNm; decide)
      have n3 : isNote S 3 = false := decide_eq_false (by rw [g3]; show ¬ basicNm = noteNm; decide)
      have n4 : isNote S 4 = false := decide_eq_false (by rw [g4]; show ¬ (⟨#[]⟩ : ByteArray) = noteNm; decide)
      rw [guessP_none (fun j hj => ?_), hl]
      rw [hl] at hj
      match j, hj with
      | 0, _ => exact n0
      | 1, _ => exact n1
      | 2, _ => exact n2
      | 3, _ => exact n3
      | 4, _ => exact n4
    rw [hst]
    have s0 : upP S 0 = { dPr with sender := p.sender } := by
      show startP S = _
      unfold startP
      rw [g0, v0, off_pres]
    have s1 : upP S 1 = { dPr with sender := p.sender } := by
      show stepP S 0 (upP S 0) = _
      unfold stepP
      rw [g0, s0]
      simp only [show (rootP8 p.sender).name = presNm from rfl]
      rw [if_neg (show ¬ presNm = basicNm by decide), if_neg (show ¬ presNm = actNm by decide), if_neg (show ¬ presNm = contNm by decide), if_neg (show ¬ presNm = noteNm by decide)]
    have s2 : upP S 2 = { dPr with sender := p.sender } := by
      show stepP S 1 (upP S 1) = _
      unfold stepP
      rw [g1, s1]
      simp only [show (elemI 1 pidfSp tupleNm [⟨idNm, tT⟩]).name = tupleNm from rfl]
      rw [if_neg (show ¬ tupleNm = basicNm by decide), if_neg (show ¬ tupleNm = actNm by decide), if_neg (show ¬ tupleNm = contNm by decide), if_neg (show ¬ tupleNm = noteNm by decide)]
    have s3 : upP S 3 = { dPr with sender := p.sender } := by
      show stepP S 2 (upP S 2) = _
      unfold stepP
      rw [g2, s2]
      simp only [show (elemI 2 pidfSp stNm []).name = stNm from rfl]
      rw [if_neg (show ¬ stNm = basicNm by decide), if_neg (show ¬ stNm = actNm by decide), if_neg (show ¬ stNm = contNm by decide), if_neg (show ¬ stNm = noteNm by decide)]
    have s4 : upP S 4 = { dPr with sender := p.sender, kind := p.kind } := by
      show stepP S 3 (upP S 3) = _
      unfold stepP
      rw [g3, if_pos (show (elemI 3 pidfSp basicNm []).name = basicNm from rfl), t3, s3]
      rcases h.kd with hk | hk
      · rw [hk, show hasIx basicWs (basicW 0) = 0 by decide +kernel]
      · rw [hk, show hasIx basicWs (basicW 1) = 1 by decide +kernel]
    have s5 : upP S 5 = { dPr with sender := p.sender, kind := p.kind } := by
      show stepP S 4 (upP S 4) = _
      unfold stepP
      rw [g4, s4]
      simp only [show (textI 4 (basicW p.kind)).name = (⟨#[]⟩ : ByteArray) from rfl]
      rw [if_neg (show ¬ (⟨#[]⟩ : ByteArray) = basicNm by decide), if_neg (show ¬ (⟨#[]⟩ : ByteArray) = actNm by decide), if_neg (show ¬ (⟨#[]⟩ : ByteArray) = contNm by decide), if_neg (show ¬ (⟨#[]⟩ : ByteArray) = noteNm by decide)]
    rw [s5]
    obtain ⟨qk, qf, qt, qs, qu, qp, qm⟩ := p
    have e1 := h.gl
    have e2 := h.mo
    dsimp only at e1 e2
    subst e1
    subst e2
    obtain rfl : qs = 0 := ha
    obtain rfl : qp = 0 := hc
    obtain rfl := empty_of hn
    rfl
theorem guess_001 {p : Pr} (h : OwnPr p) (hR : Rises (pidfL p)) (ha : p.shown = 0) (hc : p.prio = 0) (hn : p.status.toList.isEmpty = false) : guessM (pidfL p) = p ∧ guessP (pidfL p) = p := by
  have e := pidf_001 ha hc hn
  obtain ⟨S, hS⟩ : ∃ S, pidfL p = S := ⟨_, rfl⟩
  rw [hS] at e hR ⊢
  have hl : S.length = 7 := by rw [e]; rfl
  have g0 : S.getD 0 dIt = rootP8 p.sender := by rw [e]; rfl
  have g1 : S.getD 1 dIt = elemI 1 pidfSp tupleNm [⟨idNm, tT⟩] := by rw [e]; rfl
  have g2 : S.getD 2 dIt = elemI 2 pidfSp stNm [] := by rw [e]; rfl
  have g3 : S.getD 3 dIt = elemI 3 pidfSp basicNm [] := by rw [e]; rfl
  have g4 : S.getD 4 dIt = textI 4 (basicW p.kind) := by rw [e]; rfl
  have g5 : S.getD 5 dIt = elemI 2 pidfSp noteNm [] := by rw [e]; rfl
  have g6 : S.getD 6 dIt = textI 3 p.status := by rw [e]; rfl
  have d0 : dp S 0 = 0 := by unfold dp; rw [g0]; rfl
  have d1 : dp S 1 = 1 := by unfold dp; rw [g1]; rfl
  have d2 : dp S 2 = 2 := by unfold dp; rw [g2]; rfl
  have d3 : dp S 3 = 3 := by unfold dp; rw [g3]; rfl
  have d4 : dp S 4 = 4 := by unfold dp; rw [g4]; rfl
  have d5 : dp S 5 = 2 := by unfold dp; rw [g5]; rfl
  have d6 : dp S 6 = 3 := by unfold dp; rw [g6]; rfl
  have t3 : txtT (textL S 3) = basicW p.kind := by rw [text_one (by omega) (by rw [d4, d3]; rfl) (.inr (by rw [d5, d3]; decide)) (by rw [g4]; rfl), g4]; rfl
  have t5 : txtT (textL S 5) = p.status := by rw [text_one (by omega) (by rw [d6, d5]; rfl) (.inl (by rw [hl])) (by rw [g6]; rfl), g6]; rfl
  have v0 : valT (valueL (rootP8 p.sender).attrs entityNm) = presP ++ p.sender := by
    unfold valueL rootP8 elemI
    rw [List.find?_cons_of_pos (by simp)]
    rfl
  constructor
  · unfold guessM
    rw [hl]
    have s0 : upM S 0 = { dPr with sender := p.sender } := by
      show startM S = _
      unfold startM
      rw [g0, v0, behind_pres _ h.sz]
    have s1 : upM S 1 = { dPr with sender := p.sender } := by
      show stepM S 0 (upM S 0) = _
      unfold stepM
      rw [g0, s0]
      simp only [show (rootP8 p.sender).name = presNm from rfl]
      rw [if_neg (show ¬ presNm = basicNm by decide), if_neg (show ¬ presNm = awayNm by decide), if_neg (show ¬ presNm = busyNm by decide), if_neg (show ¬ presNm = noteNm by decide), if_neg (show ¬ presNm = contNm by decide)]
    have s2 : upM S 2 = { dPr with sender := p.sender } := by
      show stepM S 1 (upM S 1) = _
      unfold stepM
      rw [g1, s1]
      simp only [show (elemI 1 pidfSp tupleNm [⟨idNm, tT⟩]).name = tupleNm from rfl]
      rw [if_neg (show ¬ tupleNm = basicNm by decide), if_neg (show ¬ tupleNm = awayNm by decide), if_neg (show ¬ tupleNm = busyNm by decide), if_neg (show ¬ tupleNm = noteNm by decide), if_neg (show ¬ tupleNm = contNm by decide)]
    have s3 : upM S 3 = { dPr with sender := p.sender } := by
      show stepM S 2 (upM S 2) = _
      unfold stepM
      rw [g2, s2]
      simp only [show (elemI 2 pidfSp stNm []).name = stNm from rfl]
      rw [if_neg (show ¬ stNm = basicNm by decide), if_neg (show ¬ stNm = awayNm by decide), if_neg (show ¬ stNm = busyNm by decide), if_neg (show ¬ stNm = noteNm by decide), if_neg (show ¬ stNm = contNm by decide)]
    have s4 : upM S 4 = { dPr with sender := p.sender, kind := p.kind } := by
      show stepM S 3 (upM S 3) = _
      unfold stepM
      rw [g3, if_pos (show (elemI 3 pidfSp basicNm []).name = basicNm from rfl), t3, s3]
      rcases h.kd with hk | hk
      · rw [hk, if_neg (by decide)]; rfl
      · rw [hk, if_pos (by decide)]
    have s5 : upM S 5 = { dPr with sender := p.sender, kind := p.kind } := by
      show stepM S 4 (upM S 4) = _
      unfold stepM
      rw [g4, s4]
      simp only [show (textI 4 (basicW p.kind)).name = (⟨#[]⟩ : ByteArray) from rfl]
      rw [if_neg (show ¬ (⟨#[]⟩ : ByteArray) = basicNm by decide), if_neg (show ¬ (⟨#[]⟩ : ByteArray) = awayNm by decide), if_neg (show ¬ (⟨#[]⟩ : ByteArray) = busyNm by decide), if_neg (show ¬ (⟨#[]⟩ : ByteArray) = noteNm by decide), if_neg (show ¬ (⟨#[]⟩ : ByteArray) = contNm by decide)]
    have s6 : upM S 6 = { dPr with sender := p.sender, kind := p.kind, status := p.status } := by
      show stepM S 5 (upM S 5) = _
      unfold stepM
      rw [g5, if_neg (show ¬ (elemI 2 pidfSp noteNm []).name = basicNm by decide), if_neg (show ¬ (elemI 2 pidfSp noteNm []).name = awayNm by decide), if_neg (show ¬ (elemI 2 pidfSp noteNm []).name = busyNm by decide), if_pos (show (elemI 2 pidfSp noteNm []).name = noteNm from rfl), t5, s5]
    have s7 : upM S 7 = { dPr with sender := p.sender, kind := p.kind, status := p.status } := by
      show stepM S 6 (upM S 6) = _
      unfold stepM
      rw [g6, s6]
      simp only [show (textI 3 p.status).name = (⟨#[]⟩ : ByteArray) from rfl]
      rw [if_neg (show ¬ (⟨#[]⟩ : ByteArray) = basicNm by decide), if_neg (show ¬ (⟨#[]⟩ : ByteArray) = awayNm by decide), if_neg (show ¬ (⟨#[]⟩ : ByteArray) = busyNm by decide), if_neg (show ¬ (⟨#[]⟩ : ByteArray) = noteNm by decide), if_neg (show ¬ (⟨#[]⟩ : ByteArray) = contNm by decide)]
    rw [s7]
    obtain ⟨qk, qf, qt, qs, qu, qp, qm⟩ := p
    have e1 := h.gl
    have e2 := h.mo
    dsimp only at e1 e2
    subst e1
    subst e2
    obtain rfl : qs = 0 := ha
    obtain rfl : qp = 0 := hc
    rfl
  · have hst : guessP S = upP S 6 := by
      have n0 : isNote S 0 = false := decide_eq_false (by rw [g0]; show ¬ presNm = noteNm; decide)
      have n1 : isNote S 1 = false := decide_eq_false (by rw [g1]; show ¬ tupleNm = noteNm; decide)
      have n2 : isNote S 2 = false := decide_eq_false (by rw [g2]; show ¬ stNm = noteNm; decide)
      have n3 : isNote S 3 = false := decide_eq_false (by rw [g3]; show ¬ basicNm = noteNm; decide)
      have n4 : isNote S 4 = false := decide_eq_false (by rw [g4]; show ¬ (⟨#[]⟩ : ByteArray) = noteNm; decide)
      refine guessP_note (by omega) (fun j hj => ?_) (decide_eq_true (by rw [g5]; rfl))
      match j, hj with
      | 0, _ => exact n0
      | 1, _ => exact n1
      | 2, _ => exact n2
      | 3, _ => exact n3
      | 4, _ => exact n4
    rw [hst]
    have s0 : upP S 0 = { dPr with sender := p.sender } := by
      show startP S = _
      unfold startP
      rw [g0, v0, off_pres]
    have s1 : upP S 1 = { dPr with sender := p.sender } := by
      show stepP S 0 (upP S 0) = _
      unfold stepP
      rw [g0, s0]
      simp only [show (rootP8 p.sender).name = presNm from rfl]
      rw [if_neg (show ¬ presNm = basicNm by decide), if_neg (show ¬ presNm = actNm by decide), if_neg (show ¬ presNm = contNm by decide), if_neg (show ¬ presNm = noteNm by decide)]
    have s2 : upP S 2 = { dPr with sender := p.sender } := by
      show stepP S 1 (upP S 1) = _
      unfold stepP
      rw [g1, s1]
      simp only [show (elemI 1 pidfSp tupleNm [⟨idNm, tT⟩]).name = tupleNm from rfl]
      rw [if_neg (show ¬ tupleNm = basicNm by decide), if_neg (show ¬ tupleNm = actNm by decide), if_neg (show ¬ tupleNm = contNm by decide), if_neg (show ¬ tupleNm = noteNm by decide)]
    have s3 : upP S 3 = { dPr with sender := p.sender } := by
      show stepP S 2 (upP S 2) = _
      unfold stepP
      rw [g2, s2]
      simp only [show (elemI 2 pidfSp stNm []).name = stNm from rfl]
      rw [if_neg (show ¬ stNm = basicNm by decide), if_neg (show ¬ stNm = actNm by decide), if_neg (show ¬ stNm = contNm by decide), if_neg (show ¬ stNm = noteNm by decide)]
    have s4 : upP S 4 = { dPr with sender := p.sender, kind := p.kind } := by
      show stepP S 3 (upP S 3) = _
      unfold stepP
      rw [g3, if_pos (show (elemI 3 pidfSp basicNm []).name = basicNm from rfl), t3, s3]
      rcases h.kd with hk | hk
      · rw [hk, show hasIx basicWs (basicW 0) = 0 by decide +kernel]
      · rw [hk, show hasIx basicWs (basicW 1) = 1 by decide +kernel]
    have s5 : upP S 5 = { dPr with sender := p.sender, kind := p.kind } := by
      show stepP S 4 (upP S 4) = _
      unfold stepP
      rw [g4, s4]
      simp only [show (textI 4 (basicW p.kind)).name = (⟨#[]⟩ : ByteArray) from rfl]
      rw [if_neg (show ¬ (⟨#[]⟩ : ByteArray) = basicNm by decide), if_neg (show ¬ (⟨#[]⟩ : ByteArray) = actNm by decide), if_neg (show ¬ (⟨#[]⟩ : ByteArray) = contNm by decide), if_neg (show ¬ (⟨#[]⟩ : ByteArray) = noteNm by decide)]
    have s6 : upP S 6 = { dPr with sender := p.sender, kind := p.kind, status := p.status } := by
      show stepP S 5 (upP S 5) = _
      unfold stepP
      rw [g5, if_neg (show ¬ (elemI 2 pidfSp noteNm []).name = basicNm by decide), if_neg (show ¬ (elemI 2 pidfSp noteNm []).name = actNm by decide), if_neg (show ¬ (elemI 2 pidfSp noteNm []).name = contNm by decide), if_pos (show (elemI 2 pidfSp noteNm []).name = noteNm from rfl), t5, s5]
    rw [s6]
    obtain ⟨qk, qf, qt, qs, qu, qp, qm⟩ := p
    have e1 := h.gl
    have e2 := h.mo
    dsimp only at e1 e2
    subst e1
    subst e2
    obtain rfl : qs = 0 := ha
    obtain rfl : qp = 0 := hc
    rfl
theorem guess_010 {p : Pr} (h : OwnPr p) (hR : Rises (pidfL p)) (ha : p.shown = 0) (hc : p.prio ≠ 0) (hn : p.status.toList.isEmpty = true) : guessM (pidfL p) = p ∧ guessP (pidfL p) = p := by
  have e := pidf_010 ha hc hn
  obtain ⟨S, hS⟩ : ∃ S, pidfL p = S := ⟨_, rfl⟩
  rw [hS] at e hR ⊢
  have hl : S.length = 7 := by rw [e]; rfl
  have g0 : S.getD 0 dIt = rootP8 p.sender := by rw [e]; rfl
  have g1 : S.getD 1 dIt = elemI 1 pidfSp tupleNm [⟨idNm, tT⟩] := by rw [e]; rfl
  have g2 : S.getD 2 dIt = elemI 2 pidfSp stNm [] := by rw [e]; rfl
  have g3 : S.getD 3 dIt = elemI 3 pidfSp basicNm [] := by rw [e]; rfl
  have g4 : S.getD 4 dIt = textI 4 (basicW p.kind) := by rw [e]; rfl
  have g5 : S.getD 5 dIt = elemI 2 pidfSp contNm [⟨prioKey, shareText (thouVal p.prio)⟩] := by rw [e]; rfl
  have g6 : S.getD 6 dIt = textI 3 (xmppP ++ p.sender) := by rw [e]; rfl
  have d0 : dp S 0 = 0 := by unfold dp; rw [g0]; rfl
  have d1 : dp S 1 = 1 := by unfold dp; rw [g1]; rfl
  have d2 : dp S 2 = 2 := by unfold dp; rw [g2]; rfl
  have d3 : dp S 3 = 3 := by unfold dp; rw [g3]; rfl
  have d4 : dp S 4 = 4 := by unfold dp; rw [g4]; rfl
  have d5 : dp S 5 = 2 := by unfold dp; rw [g5]; rfl
  have d6 : dp S 6 = 3 := by unfold dp; rw [g6]; rfl
  have t3 : txtT (textL S 3) = basicW p.kind := by rw [text_one (by omega) (by rw [d4, d3]; rfl) (.inr (by rw [d5, d3]; decide)) (by rw [g4]; rfl), g4]; rfl
  have v0 : valT (valueL (rootP8 p.sender).attrs entityNm) = presP ++ p.sender := by
    unfold valueL rootP8 elemI
    rw [List.find?_cons_of_pos (by simp)]
    rfl
  have vc : valT (valueL (elemI 2 pidfSp contNm [⟨prioKey, shareText (thouVal p.prio)⟩]).attrs prioKey) = shareText (thouVal p.prio) := by
    unfold valueL elemI
    rw [List.find?_cons_of_pos (by simp)]
    rfl
  obtain ⟨pk, hpk⟩ : ∃ k : Nat, p.prio = (k : Int) := ⟨p.prio.toNat, by have := h.pr.1; omega⟩
  have hk127 : pk ≤ 127 := by have := h.pr.2; omega
  have b1 : prioVal (read8 (shareText (thouVal p.prio))) = p.prio := by rw [hpk]; exact share_back pk hk127
  have b2 : prioWith (shareText (thouVal p.prio)) = p.prio := by rw [hpk]; exact share_with pk (by omega) hk127
  constructor
  · unfold guessM
    rw [hl]
    have s0 : upM S 0 = { dPr with sender := p.sender } := by
      show startM S = _
      unfold startM
      rw [g0, v0, behind_pres _ h.sz]
    have s1 : upM S 1 = { dPr with sender := p.sender } := by
      show stepM S 0 (upM S 0) = _
      unfold stepM
      rw [g0, s0]
      simp only [show (rootP8 p.sender).name = presNm from rfl]
      rw [if_neg (show ¬ presNm = basicNm by decide), if_neg (show ¬ presNm = awayNm by decide), if_neg (show ¬ presNm = busyNm by decide), if_neg (show ¬ presNm = noteNm by decide), if_neg (show ¬ presNm = contNm by decide)]
    have s2 : upM S 2 = { dPr with sender := p.sender } := by
      show stepM S 1 (upM S 1) = _
      unfold stepM
      rw [g1, s1]
      simp only [show (elemI 1 pidfSp tupleNm [⟨idNm, tT⟩]).name = tupleNm from rfl]
      rw [if_neg (show ¬ tupleNm = basicNm by decide), if_neg (show ¬ tupleNm = awayNm by decide), if_neg (show ¬ tupleNm = busyNm by decide), if_neg (show ¬ tupleNm = noteNm by decide), if_neg (show ¬ tupleNm = contNm by decide)]
    have s3 : upM S 3 = { dPr with sender := p.sender } := by
      show stepM S 2 (upM S 2) = _
      unfold stepM
      rw [g2, s2]
      simp only [show (elemI 2 pidfSp stNm []).name = stNm from rfl]
      rw [if_neg (show ¬ stNm = basicNm by decide), if_neg (show ¬ stNm = awayNm by decide), if_neg (show ¬ stNm = busyNm by decide), if_neg (show ¬ stNm = noteNm by decide), if_neg (show ¬ stNm = contNm by decide)]
    have s4 : upM S 4 = { dPr with sender := p.sender, kind := p.kind } := by
      show stepM S 3 (upM S 3) = _
      unfold stepM
      rw [g3, if_pos (show (elemI 3 pidfSp basicNm []).name = basicNm from rfl), t3, s3]
      rcases h.kd with hk | hk
      · rw [hk, if_neg (by decide)]; rfl
      · rw [hk, if_pos (by decide)]
    have s5 : upM S 5 = { dPr with sender := p.sender, kind := p.kind } := by
      show stepM S 4 (upM S 4) = _
      unfold stepM
      rw [g4, s4]
      simp only [show (textI 4 (basicW p.kind)).name = (⟨#[]⟩ : ByteArray) from rfl]
      rw [if_neg (show ¬ (⟨#[]⟩ : ByteArray) = basicNm by decide), if_neg (show ¬ (⟨#[]⟩ : ByteArray) = awayNm by decide), if_neg (show ¬ (⟨#[]⟩ : ByteArray) = busyNm by decide), if_neg (show ¬ (⟨#[]⟩ : ByteArray) = noteNm by decide), if_neg (show ¬ (⟨#[]⟩ : ByteArray) = contNm by decide)]
    have s6 : upM S 6 = { dPr with sender := p.sender, kind := p.kind, prio := p.prio } := by
      show stepM S 5 (upM S 5) = _
      unfold stepM
      rw [g5, if_neg (show ¬ (elemI 2 pidfSp contNm [⟨prioKey, shareText (thouVal p.prio)⟩]).name = basicNm by show ¬ contNm = basicNm; decide), if_neg (show ¬ (elemI 2 pidfSp contNm [⟨prioKey, shareText (thouVal p.prio)⟩]).name = awayNm by show ¬ contNm = awayNm; decide), if_neg (show ¬ (elemI 2 pidfSp contNm [⟨prioKey, shareText (thouVal p.prio)⟩]).name = busyNm by show ¬ contNm = busyNm; decide), if_neg (show ¬ (elemI 2 pidfSp contNm [⟨prioKey, shareText (thouVal p.prio)⟩]).name = noteNm by show ¬ contNm = noteNm; decide), if_pos (show (elemI 2 pidfSp contNm [⟨prioKey, shareText (thouVal p.prio)⟩]).name = contNm from rfl), vc, b1, s5]
    have s7 : upM S 7 = { dPr with sender := p.sender, kind := p.kind, prio := p.prio } := by
      show stepM S 6 (upM S 6) = _
      unfold stepM
      rw [g6, s6]
      simp only [show (textI 3 (xmppP ++ p.sender)).name = (⟨#[]⟩ : ByteArray) from rfl]
      rw [if_neg (show ¬ (⟨#[]⟩ : ByteArray) = basicNm by decide), if_neg (show ¬ (⟨#[]⟩ : ByteArray) = awayNm by decide), if_neg (show ¬ (⟨#[]⟩ : ByteArray) = busyNm by decide), if_neg (show ¬ (⟨#[]⟩ : ByteArray) = noteNm by decide), if_neg (show ¬ (⟨#[]⟩ : ByteArray) = contNm by decide)]
    rw [s7]
    obtain ⟨qk, qf, qt, qs, qu, qp, qm⟩ := p
    have e1 := h.gl
    have e2 := h.mo
    dsimp only at e1 e2
    subst e1
    subst e2
    obtain rfl : qs = 0 := ha
    obtain rfl := empty_of hn
    rfl
  · have hst : guessP S = upP S 7 := by
      have n0 : isNote S 0 = false := decide_eq_false (by rw [g0]; show ¬ presNm = noteNm; decide)
      have n1 : isNote S 1 = false := decide_eq_false (by rw [g1]; show ¬ tupleNm = noteNm; decide)
      have n2 : isNote S 2 = false := decide_eq_false (by rw [g2]; show ¬ stNm = noteNm; decide)
      have n3 : isNote S 3 = false := decide_eq_false (by rw [g3]; show ¬ basicNm = noteNm; decide)
      have n4 : isNote S 4 = false := decide_eq_false (by rw [g4]; show ¬ (⟨#[]⟩ : ByteArray) = noteNm; decide)
      have n5 : isNote S 5 = false := decide_eq_false (by rw [g5]; show ¬ contNm = noteNm; decide)
      have n6 : isNote S 6 = false := decide_eq_false (by rw [g6]; show ¬ (⟨#[]⟩ : ByteArray) = noteNm; decide)
      rw [guessP_none (fun j hj => ?_), hl]
      rw [hl] at hj
      match j, hj with
      | 0, _ => exact n0
      | 1, _ => exact n1
      | 2, _ => exact n2
      | 3, _ => exact n3
      | 4, _ => exact n4
      | 5, _ => exact n5
      | 6, _ => exact n6
    rw [hst]
    have s0 : upP S 0 = { dPr with sender := p.sender } := by
      show startP S = _
      unfold startP
      rw [g0, v0, off_pres]
    have s1 : upP S 1 = { dPr with sender := p.sender } := by
      show stepP S 0 (upP S 0) = _
      unfold stepP
      rw [g0, s0]
      simp only [show (rootP8 p.sender).name = presNm from rfl]
      rw [if_neg (show ¬ presNm = basicNm by decide), if_neg (show ¬ presNm = actNm by decide), if_neg (show ¬ presNm = contNm by decide), if_neg (show ¬ presNm = noteNm by decide)]
    have s2 : upP S 2 = { dPr with sender := p.sender } := by
      show stepP S 1 (upP S 1) = _
      unfold stepP
      rw [g1, s1]
      simp only [show (elemI 1 pidfSp tupleNm [⟨idNm, tT⟩]).name = tupleNm from rfl]
      rw [if_neg (show ¬ tupleNm = basicNm by decide), if_neg (show ¬ tupleNm = actNm by decide), if_neg (show ¬ tupleNm = contNm by decide), if_neg (show ¬ tupleNm = noteNm by decide)]
    have s3 : upP S 3 = { dPr with sender := p.sender } := by
      show stepP S 2 (upP S 2) = _
      unfold stepP
      rw [g2, s2]
      simp only [show (elemI 2 pidfSp stNm []).name = stNm from rfl]
      rw [if_neg (show ¬ stNm = basicNm by decide), if_neg (show ¬ stNm = actNm by decide), if_neg (show ¬ stNm = contNm by decide), if_neg (show ¬ stNm = noteNm by decide)]
    have s4 : upP S 4 = { dPr with sender := p.sender, kind := p.kind } := by
      show stepP S 3 (upP S 3) = _
      unfold stepP
      rw [g3, if_pos (show (elemI 3 pidfSp basicNm []).name = basicNm from rfl), t3, s3]
      rcases h.kd with hk | hk
      · rw [hk, show hasIx basicWs (basicW 0) = 0 by decide +kernel]
      · rw [hk, show hasIx basicWs (basicW 1) = 1 by decide +kernel]
    have s5 : upP S 5 = { dPr with sender := p.sender, kind := p.kind } := by
      show stepP S 4 (upP S 4) = _
      unfold stepP
      rw [g4, s4]
      simp only [show (textI 4 (basicW p.kind)).name = (⟨#[]⟩ : ByteArray) from rfl]
      rw [if_neg (show ¬ (⟨#[]⟩ : ByteArray) = basicNm by decide), if_neg (show ¬ (⟨#[]⟩ : ByteArray) = actNm by decide), if_neg (show ¬ (⟨#[]⟩ : ByteArray) = contNm by decide), if_neg (show ¬ (⟨#[]⟩ : ByteArray) = noteNm by decide)]
    have s6 : upP S 6 = { dPr with sender := p.sender, kind := p.kind, prio := p.prio } := by
      show stepP S 5 (upP S 5) = _
      unfold stepP
      rw [g5, if_neg (show ¬ (elemI 2 pidfSp contNm [⟨prioKey, shareText (thouVal p.prio)⟩]).name = basicNm by show ¬ contNm = basicNm; decide), if_neg (show ¬ (elemI 2 pidfSp contNm [⟨prioKey, shareText (thouVal p.prio)⟩]).name = actNm by show ¬ contNm = actNm; decide), if_pos (show (elemI 2 pidfSp contNm [⟨prioKey, shareText (thouVal p.prio)⟩]).name = contNm from rfl), vc, b2, s5]
    have s7 : upP S 7 = { dPr with sender := p.sender, kind := p.kind, prio := p.prio } := by
      show stepP S 6 (upP S 6) = _
      unfold stepP
      rw [g6, s6]
      simp only [show (textI 3 (xmppP ++ p.sender)).name = (⟨#[]⟩ : ByteArray) from rfl]
      rw [if_neg (show ¬ (⟨#[]⟩ : ByteArray) = basicNm by decide), if_neg (show ¬ (⟨#[]⟩ : ByteArray) = actNm by decide), if_neg (show ¬ (⟨#[]⟩ : ByteArray) = contNm by decide), if_neg (show ¬ (⟨#[]⟩ : ByteArray) = noteNm by decide)]
    rw [s7]
    obtain ⟨qk, qf, qt, qs, qu, qp, qm⟩ := p
    have e1 := h.gl
    have e2 := h.mo
    dsimp only at e1 e2
    subst e1
    subst e2
    obtain rfl : qs = 0 := ha
    obtain rfl := empty_of hn
    rfl
theorem guess_011 {p : Pr} (h : OwnPr p) (hR : Rises (pidfL p)) (ha : p.shown = 0) (hc : p.prio ≠ 0) (hn : p.status.toList.isEmpty = false) : guessM (pidfL p) = p ∧ guessP (pidfL p) = p := by
  have e := pidf_011 ha hc hn
  obtain ⟨S, hS⟩ : ∃ S, pidfL p = S := ⟨_, rfl⟩
  rw [hS] at e hR ⊢
  have hl : S.length = 9 := by rw [e]; rfl
  have g0 : S.getD 0 dIt = rootP8 p.sender := by rw [e]; rfl
  have g1 : S.getD 1 dIt = elemI 1 pidfSp tupleNm [⟨idNm, tT⟩] := by rw [e]; rfl
  have g2 : S.getD 2 dIt = elemI 2 pidfSp stNm [] := by rw [e]; rfl
  have g3 : S.getD 3 dIt = elemI 3 pidfSp basicNm [] := by rw [e]; rfl
  have g4 : S.getD 4 dIt = textI 4 (basicW p.kind) := by rw [e]; rfl
  have g5 : S.getD 5 dIt = elemI 2 pidfSp contNm [⟨prioKey, shareText (thouVal p.prio)⟩] := by rw [e]; rfl
  have g6 : S.getD 6 dIt = textI 3 (xmppP ++ p.sender) := by rw [e]; rfl
  have g7 : S.getD 7 dIt = elemI 2 pidfSp noteNm [] := by rw [e]; rfl
  have g8 : S.getD 8 dIt = textI 3 p.status := by rw [e]; rfl
  have d0 : dp S 0 = 0 := by unfold dp; rw [g0]; rfl
  have d1 : dp S 1 = 1 := by unfold dp; rw [g1]; rfl
  have d2 : dp S 2 = 2 := by unfold dp; rw [g2]; rfl
  have d3 : dp S 3 = 3 := by unfold dp; rw [g3]; rfl
  have d4 : dp S 4 = 4 := by unfold dp; rw [g4]; rfl
  have d5 : dp S 5 = 2 := by unfold dp; rw [g5]; rfl
  have d6 : dp S 6 = 3 := by unfold dp; rw [g6]; rfl
  have d7 : dp S 7 = 2 := by unfold dp; rw [g7]; rfl
  have d8 : dp S 8 = 3 := by unfold dp; rw [g8]; rfl
  have t3 : txtT (textL S 3) = basicW p.kind := by rw [text_one (by omega) (by rw [d4, d3]; rfl) (.inr (by rw [d5, d3]; decide)) (by rw [g4]; rfl), g4]; rfl
  have t7 : txtT (textL S 7) = p.status := by rw [text_one (by omega) (by rw [d8, d7]; rfl) (.inl (by rw [hl])) (by rw [g8]; rfl), g8]; rfl
  have v0 : valT (valueL (rootP8 p.sender).attrs entityNm) = presP ++ p.sender := by
    unfold valueL rootP8 elemI
    rw [List.find?_cons_of_pos (by simp)]
    rfl
  have vc : valT (valueL (elemI 2 pidfSp contNm [⟨prioKey, shareText (thouVal p.prio)⟩]).attrs prioKey) = shareText (thouVal p.prio) := by
    unfold valueL elemI
    rw [List.find?_cons_of_pos (by simp)]
    rfl
  obtain ⟨pk, hpk⟩ : ∃ k : Nat, p.prio = (k : Int) := ⟨p.prio.toNat, by have := h.pr.1; omega⟩
  have hk127 : pk ≤ 127 := by have := h.pr.2; omega
  have b1 : prioVal (read8 (shareText (thouVal p.prio))) = p.prio := by rw [hpk]; exact share_back pk hk127
  have b2 : prioWith (shareText (thouVal p.prio)) = p.prio := by rw [hpk]; exact share_with pk (by omega) hk127
  constructor
  · unfold guessM
    rw [hl]
    have s0 : upM S 0 = { dPr with sender := p.sender } := by
      show startM S = _
      unfold startM
      rw [g0, v0, behind_pres _ h.sz]
    have s1 : upM S 1 = { dPr with sender := p.sender } := by
      show stepM S 0 (upM S 0) = _
      unfold stepM
      rw [g0, s0]
      simp only [show (rootP8 p.sender).name = presNm from rfl]
      rw [if_neg (show ¬ presNm = basicNm by decide), if_neg (show ¬ presNm = awayNm by decide), if_neg (show ¬ presNm = busyNm by decide), if_neg (show ¬ presNm = noteNm by decide), if_neg (show ¬ presNm = contNm by decide)]
    have s2 : upM S 2 = { dPr with sender := p.sender } := by
      show stepM S 1 (upM S 1) = _
      unfold stepM
      rw [g1, s1]
      simp only [show (elemI 1 pidfSp tupleNm [⟨idNm, tT⟩]).name = tupleNm from rfl]
      rw [if_neg (show ¬ tupleNm = basicNm by decide), if_neg (show ¬ tupleNm = awayNm by decide), if_neg (show ¬ tupleNm = busyNm by decide), if_neg (show ¬ tupleNm = noteNm by decide), if_neg (show ¬ tupleNm = contNm by decide)]
    have s3 : upM S 3 = { dPr with sender := p.sender } := by
      show stepM S 2 (upM S 2) = _
      unfold stepM
      rw [g2, s2]
      simp only [show (elemI 2 pidfSp stNm []).name = stNm from rfl]
      rw [if_neg (show ¬ stNm = basicNm by decide), if_neg (show ¬ stNm = awayNm by decide), if_neg (show ¬ stNm = busyNm by decide), if_neg (show ¬ stNm = noteNm by decide), if_neg (show ¬ stNm = contNm by decide)]
    have s4 : upM S 4 = { dPr with sender := p.sender, kind := p.kind } := by
      show stepM S 3 (upM S 3) = _
      unfold stepM
      rw [g3, if_pos (show (elemI 3 pidfSp basicNm []).name = basicNm from rfl), t3, s3]
      rcases h.kd with hk | hk
      · rw [hk, if_neg (by decide)]; rfl
      · rw [hk, if_pos (by decide)]
    have s5 : upM S 5 = { dPr with sender := p.sender, kind := p.kind } := by
      show stepM S 4 (upM S 4) = _
      unfold stepM
      rw [g4, s4]
      simp only [show (textI 4 (basicW p.kind)).name = (⟨#[]⟩ : ByteArray) from rfl]
      rw [if_neg (show ¬ (⟨#[]⟩ : ByteArray) = basicNm by decide), if_neg (show ¬ (⟨#[]⟩ : ByteArray) = awayNm by decide), if_neg (show ¬ (⟨#[]⟩ : ByteArray) = busyNm by decide), if_neg (show ¬ (⟨#[]⟩ : ByteArray) = noteNm by decide), if_neg (show ¬ (⟨#[]⟩ : ByteArray) = contNm by decide)]
    have s6 : upM S 6 = { dPr with sender := p.sender, kind := p.kind, prio := p.prio } := by
      show stepM S 5 (upM S 5) = _
      unfold stepM
      rw [g5, if_neg (show ¬ (elemI 2 pidfSp contNm [⟨prioKey, shareText (thouVal p.prio)⟩]).name = basicNm by show ¬ contNm = basicNm; decide), if_neg (show ¬ (elemI 2 pidfSp contNm [⟨prioKey, shareText (thouVal p.prio)⟩]).name = awayNm by show ¬ contNm = awayNm; decide), if_neg (show ¬ (elemI 2 pidfSp contNm [⟨prioKey, shareText (thouVal p.prio)⟩]).name = busyNm by show ¬ contNm = busyNm; decide), if_neg (show ¬ (elemI 2 pidfSp contNm [⟨prioKey, shareText (thouVal p.prio)⟩]).name = noteNm by show ¬ contNm = noteNm; decide), if_pos (show (elemI 2 pidfSp contNm [⟨prioKey, shareText (thouVal p.prio)⟩]).name = contNm from rfl), vc, b1, s5]
    have s7 : upM S 7 = { dPr with sender := p.sender, kind := p.kind, prio := p.prio } := by
      show stepM S 6 (upM S 6) = _
      unfold stepM
      rw [g6, s6]
      simp only [show (textI 3 (xmppP ++ p.sender)).name = (⟨#[]⟩ : ByteArray) from rfl]
      rw [if_neg (show ¬ (⟨#[]⟩ : ByteArray) = basicNm by decide), if_neg (show ¬ (⟨#[]⟩ : ByteArray) = awayNm by decide), if_neg (show ¬ (⟨#[]⟩ : ByteArray) = busyNm by decide), if_neg (show ¬ (⟨#[]⟩ : ByteArray) = noteNm by decide), if_neg (show ¬ (⟨#[]⟩ : ByteArray) = contNm by decide)]
    have s8 : upM S 8 = { dPr with sender := p.sender, kind := p.kind, prio := p.prio, status := p.status } := by
      show stepM S 7 (upM S 7) = _
      unfold stepM
      rw [g7, if_neg (show ¬ (elemI 2 pidfSp noteNm []).name = basicNm by decide), if_neg (show ¬ (elemI 2 pidfSp noteNm []).name = awayNm by decide), if_neg (show ¬ (elemI 2 pidfSp noteNm []).name = busyNm by decide), if_pos (show (elemI 2 pidfSp noteNm []).name = noteNm from rfl), t7, s7]
    have s9 : upM S 9 = { dPr with sender := p.sender, kind := p.kind, prio := p.prio, status := p.status } := by
      show stepM S 8 (upM S 8) = _
      unfold stepM
      rw [g8, s8]
      simp only [show (textI 3 p.status).name = (⟨#[]⟩ : ByteArray) from rfl]
      rw [if_neg (show ¬ (⟨#[]⟩ : ByteArray) = basicNm by decide), if_neg (show ¬ (⟨#[]⟩ : ByteArray) = awayNm by decide), if_neg (show ¬ (⟨#[]⟩ : ByteArray) = busyNm by decide), if_neg (show ¬ (⟨#[]⟩ : ByteArray) = noteNm by decide), if_neg (show ¬ (⟨#[]⟩ : ByteArray) = contNm by decide)]
    rw [s9]
    obtain ⟨qk, qf, qt, qs, qu, qp, qm⟩ := p
    have e1 := h.gl
    have e2 := h.mo
    dsimp only at e1 e2
    subst e1
    subst e2
    obtain rfl : qs = 0 := ha
    rfl
  · have hst : guessP S = upP S 8 := by
      have n0 : isNote S 0 = false := decide_eq_false (by rw [g0]; show ¬ presNm = noteNm; decide)
      have n1 : isNote S 1 = false := decide_eq_false (by rw [g1]; show ¬ tupleNm = noteNm; decide)
      have n2 : isNote S 2 = false := decide_eq_false (by rw [g2]; show ¬ stNm = noteNm; decide)
      have n3 : isNote S 3 = false := decide_eq_false (by rw [g3]; show ¬ basicNm = noteNm; decide)
      have n4 : isNote S 4 = false := decide_eq_false (by rw [g4]; show ¬ (⟨#[]⟩ : ByteArray) = noteNm; decide)
      have n5 : isNote S 5 = false := decide_eq_false (by rw [g5]; show ¬ contNm = noteNm; decide)
      have n6 : isNote S 6 = false := decide_eq_false (by rw [g6]; show ¬ (⟨#[]⟩ : ByteArray) = noteNm; decide)
      refine guessP_note (by omega) (fun j hj => ?_) (decide_eq_true (by rw [g7]; rfl))
      match j, hj with
      | 0, _ => exact n0
      | 1, _ => exact n1
      | 2, _ => exact n2
      | 3, _ => exact n3
      | 4, _ => exact n4
      | 5, _ => exact n5
      | 6, _ => exact n6
    rw [hst]
    have s0 : upP S 0 = { dPr with sender := p.sender } := by
      show startP S = _
      unfold startP
      rw [g0, v0, off_pres]
    have s1 : upP S 1 = { dPr with sender := p.sender } := by
      show stepP S 0 (upP S 0) = _
      unfold stepP
      rw [g0, s0]
      simp only [show (rootP8 p.sender).name = presNm from rfl]
      rw [if_neg (show ¬ presNm = basicNm by decide), if_neg (show ¬ presNm = actNm by decide), if_neg (show ¬ presNm = contNm by decide), if_neg (show ¬ presNm = noteNm by decide)]
    have s2 : upP S 2 = { dPr with sender := p.sender } := by
      show stepP S 1 (upP S 1) = _
      unfold stepP
      rw [g1, s1]
      simp only [show (elemI 1 pidfSp tupleNm [⟨idNm, tT⟩]).name = tupleNm from rfl]
      rw [if_neg (show ¬ tupleNm = basicNm by decide), if_neg (show ¬ tupleNm = actNm by decide), if_neg (show ¬ tupleNm = contNm by decide), if_neg (show ¬ tupleNm = noteNm by decide)]
    have s3 : upP S 3 = { dPr with sender := p.sender } := by
      show stepP S 2 (upP S 2) = _
      unfold stepP
      rw [g2, s2]
      simp only [show (elemI 2 pidfSp stNm []).name = stNm from rfl]
      rw [if_neg (show ¬ stNm = basicNm by decide), if_neg (show ¬ stNm = actNm by decide), if_neg (show ¬ stNm = contNm by decide), if_neg (show ¬ stNm = noteNm by decide)]
    have s4 : upP S 4 = { dPr with sender := p.sender, kind := p.kind } := by
      show stepP S 3 (upP S 3) = _
      unfold stepP
      rw [g3, if_pos (show (elemI 3 pidfSp basicNm []).name = basicNm from rfl), t3, s3]
      rcases h.kd with hk | hk
      · rw [hk, show hasIx basicWs (basicW 0) = 0 by decide +kernel]
      · rw [hk, show hasIx basicWs (basicW 1) = 1 by decide +kernel]
    have s5 : upP S 5 = { dPr with sender := p.sender, kind := p.kind } := by
      show stepP S 4 (upP S 4) = _
      unfold stepP
      rw [g4, s4]
      simp only [show (textI 4 (basicW p.kind)).name = (⟨#[]⟩ : ByteArray) from rfl]
      rw [if_neg (show ¬ (⟨#[]⟩ : ByteArray) = basicNm by decide), if_neg (show ¬ (⟨#[]⟩ : ByteArray) = actNm by decide), if_neg (show ¬ (⟨#[]⟩ : ByteArray) = contNm by decide), if_neg (show ¬ (⟨#[]⟩ : ByteArray) = noteNm by decide)]
    have s6 : upP S 6 = { dPr with sender := p.sender, kind := p.kind, prio := p.prio } := by
      show stepP S 5 (upP S 5) = _
      unfold stepP
      rw [g5, if_neg (show ¬ (elemI 2 pidfSp contNm [⟨prioKey, shareText (thouVal p.prio)⟩]).name = basicNm by show ¬ contNm = basicNm; decide), if_neg (show ¬ (elemI 2 pidfSp contNm [⟨prioKey, shareText (thouVal p.prio)⟩]).name = actNm by show ¬ contNm = actNm; decide), if_pos (show (elemI 2 pidfSp contNm [⟨prioKey, shareText (thouVal p.prio)⟩]).name = contNm from rfl), vc, b2, s5]
    have s7 : upP S 7 = { dPr with sender := p.sender, kind := p.kind, prio := p.prio } := by
      show stepP S 6 (upP S 6) = _
      unfold stepP
      rw [g6, s6]
      simp only [show (textI 3 (xmppP ++ p.sender)).name = (⟨#[]⟩ : ByteArray) from rfl]
      rw [if_neg (show ¬ (⟨#[]⟩ : ByteArray) = basicNm by decide), if_neg (show ¬ (⟨#[]⟩ : ByteArray) = actNm by decide), if_neg (show ¬ (⟨#[]⟩ : ByteArray) = contNm by decide), if_neg (show ¬ (⟨#[]⟩ : ByteArray) = noteNm by decide)]
    have s8 : upP S 8 = { dPr with sender := p.sender, kind := p.kind, prio := p.prio, status := p.status } := by
      show stepP S 7 (upP S 7) = _
      unfold stepP
      rw [g7, if_neg (show ¬ (elemI 2 pidfSp noteNm []).name = basicNm by decide), if_neg (show ¬ (elemI 2 pidfSp noteNm []).name = actNm by decide), if_neg (show ¬ (elemI 2 pidfSp noteNm []).name = contNm by decide), if_pos (show (elemI 2 pidfSp noteNm []).name = noteNm from rfl), t7, s7]
    rw [s8]
    obtain ⟨qk, qf, qt, qs, qu, qp, qm⟩ := p
    have e1 := h.gl
    have e2 := h.mo
    dsimp only at e1 e2
    subst e1
    subst e2
    obtain rfl : qs = 0 := ha
    rfl
theorem guess_100 {p : Pr} (h : OwnPr p) (hR : Rises (pidfL p)) (ha : p.shown ≠ 0) (hc : p.prio = 0) (hn : p.status.toList.isEmpty = true) : guessM (pidfL p) = p ∧ guessP (pidfL p) = p := by
  have e := pidf_100 ha hc hn
  obtain ⟨S, hS⟩ : ∃ S, pidfL p = S := ⟨_, rfl⟩
  rw [hS] at e hR ⊢
  have hl : S.length = 7 := by rw [e]; rfl
  have g0 : S.getD 0 dIt = rootP8 p.sender := by rw [e]; rfl
  have g1 : S.getD 1 dIt = elemI 1 pidfSp tupleNm [⟨idNm, tT⟩] := by rw [e]; rfl
  have g2 : S.getD 2 dIt = elemI 2 pidfSp stNm [] := by rw [e]; rfl
  have g3 : S.getD 3 dIt = elemI 3 pidfSp basicNm [] := by rw [e]; rfl
  have g4 : S.getD 4 dIt = textI 4 (basicW p.kind) := by rw [e]; rfl
  have g5 : S.getD 5 dIt = elemI 2 rpidSp actNm [] := by rw [e]; rfl
  have g6 : S.getD 6 dIt = elemI 3 rpidSp (actW p.shown) [] := by rw [e]; rfl
  have d0 : dp S 0 = 0 := by unfold dp; rw [g0]; rfl
  have d1 : dp S 1 = 1 := by unfold dp; rw [g1]; rfl
  have d2 : dp S 2 = 2 := by unfold dp; rw [g2]; rfl
  have d3 : dp S 3 = 3 := by unfold dp; rw [g3]; rfl
  have d4 : dp S 4 = 4 := by unfold dp; rw [g4]; rfl
  have d5 : dp S 5 = 2 := by unfold dp; rw [g5]; rfl
  have d6 : dp S 6 = 3 := by unfold dp; rw [g6]; rfl
  have t3 : txtT (textL S 3) = basicW p.kind := by rw [text_one (by omega) (by rw [d4, d3]; rfl) (.inr (by rw [d5, d3]; decide)) (by rw [g4]; rfl), g4]; rfl
  have ax : hasIx actWs (S.getD 6 dIt).name = p.shown := by
    rw [g6]
    show hasIx actWs (actW p.shown) = p.shown
    rcases h.sh with hs | hs | hs
    · exact absurd hs ha
    · rw [hs]; decide +kernel
    · rw [hs]; decide +kernel
  have k5 : showIx S 5 = p.shown := by
    unfold showIx
    rw [kids_one hR (by omega) (by rw [d6, d5]; rfl) (.inl (by rw [hl])), show ([5 + 1] : List Nat).find? (fun k => decide (0 ≤ hasIx actWs (S.getD k dIt).name)) = some 6 from List.find?_cons_of_pos (p := fun k => decide (0 ≤ hasIx actWs (S.getD k dIt).name)) (decide_eq_true (show 0 ≤ hasIx actWs (S.getD 6 dIt).name by rw [ax]; rcases h.sh with hs | hs | hs <;> omega))]
    exact ax
  have v0 : valT (valueL (rootP8 p.sender).attrs entityNm) = presP ++ p.sender := by
    unfold valueL rootP8 elemI
    rw [List.find?_cons_of_pos (by simp)]
    rfl
  constructor
  · unfold guessM
    rw [hl]
    have s0 : upM S 0 = { dPr with sender := p.sender } := by
      show startM S = _
      unfold startM
      rw [g0, v0, behind_pres _ h.sz]
    have s1 : upM S 1 = { dPr with sender := p.sender } := by
      show stepM S 0 (upM S 0) = _
      unfold stepM
      rw [g0, s0]
      simp only [show (rootP8 p.sender).name = presNm from rfl]
      rw [if_neg (show ¬ presNm = basicNm by decide), if_neg (show ¬ presNm = awayNm by decide), if_neg (show ¬ presNm = busyNm by decide), if_neg (show ¬ presNm = noteNm by decide), if_neg (show ¬ presNm = contNm by decide)]
    have s2 : upM S 2 = { dPr with sender := p.sender } := by
      show stepM S 1 (upM S 1) = _
      unfold stepM
      rw [g1, s1]
      simp only [show (elemI 1 pidfSp tupleNm [⟨idNm, tT⟩]).name = tupleNm from rfl]
      rw [if_neg (show ¬ tupleNm = basicNm by decide), if_neg (show ¬ tupleNm = awayNm by decide), if_neg (show ¬ tupleNm = busyNm by decide), if_neg (show ¬ tupleNm = noteNm by decide), if_neg (show ¬ tupleNm = contNm by decide)]
    have s3 : upM S 3 = { dPr with sender := p.sender } := by
      show stepM S 2 (upM S 2) = _
      unfold stepM
      rw [g2, s2]
      simp only [show (elemI 2 pidfSp stNm []).name = stNm from rfl]
      rw [if_neg (show ¬ stNm = basicNm by decide), if_neg (show ¬ stNm = awayNm by decide), if_neg (show ¬ stNm = busyNm by decide), if_neg (show ¬ stNm = noteNm by decide), if_neg (show ¬ stNm = contNm by decide)]
    have s4 : upM S 4 = { dPr with sender := p.sender, kind := p.kind } := by
      show stepM S 3 (upM S 3) = _
      unfold stepM
      rw [g3, if_pos (show (elemI 3 pidfSp basicNm []).name = basicNm from rfl), t3, s3]
      rcases h.kd with hk | hk
      · rw [hk, if_neg (by decide)]; rfl
      · rw [hk, if_pos (by decide)]
    have s5 : upM S 5 = { dPr with sender := p.sender, kind := p.kind } := by
      show stepM S 4 (upM S 4) = _
      unfold stepM
      rw [g4, s4]
      simp only [show (textI 4 (basicW p.kind)).name = (⟨#[]⟩ : ByteArray) from rfl]
      rw [if_neg (show ¬ (⟨#[]⟩ : ByteArray) = basicNm by decide), if_neg (show ¬ (⟨#[]⟩ : ByteArray) = awayNm by decide), if_neg (show ¬ (⟨#[]⟩ : ByteArray) = busyNm by decide), if_neg (show ¬ (⟨#[]⟩ : ByteArray) = noteNm by decide), if_neg (show ¬ (⟨#[]⟩ : ByteArray) = contNm by decide)]
    have s6 : upM S 6 = { dPr with sender := p.sender, kind := p.kind } := by
      show stepM S 5 (upM S 5) = _
      unfold stepM
      rw [g5, s5]
      simp only [show (elemI 2 rpidSp actNm []).name = actNm from rfl]
      rw [if_neg (show ¬ actNm = basicNm by decide), if_neg (show ¬ actNm = awayNm by decide), if_neg (show ¬ actNm = busyNm by decide), if_neg (show ¬ actNm = noteNm by decide), if_neg (show ¬ actNm = contNm by decide)]
    have s7 : upM S 7 = { dPr with sender := p.sender, kind := p.kind, shown := p.shown } := by
      show stepM S 6 (upM S 6) = _
      unfold stepM
      rw [g6, s6]
      rcases h.sh with hs | hs | hs
      · exact absurd hs ha
      · rw [hs, if_neg (by decide), if_pos (by decide)]
      · rw [hs, if_neg (by decide), if_neg (by decide), if_pos (by decide)]
    rw [s7]
    obtain ⟨qk, qf, qt, qs, qu, qp, qm⟩ := p
    have e1 := h.gl
    have e2 := h.mo
    dsimp only at e1 e2
    subst e1
    subst e2
    obtain rfl : qp = 0 := hc
    obtain rfl := empty_of hn
    rfl
  · have hst : guessP S = upP S 7 := by
      have n0 : isNote S 0 = false := decide_eq_false (by rw [g0]; show ¬ presNm = noteNm; decide)
      have n1 : isNote S 1 = false := decide_eq_false (by rw [g1]; show ¬ tupleNm = noteNm; decide)
      have n2 : isNote S 2 = false := decide_eq_false (by rw [g2]; show ¬ stNm = noteNm; decide)
      have n3 : isNote S 3 = false := decide_eq_false (by rw [g3]; show ¬ basicNm = noteNm; decide)
      have n4 : isNote S 4 = false := decide_eq_false (by rw [g4]; show ¬ (⟨#[]⟩ : ByteArray) = noteNm; decide)
      have n5 : isNote S 5 = false := decide_eq_false (by rw [g5]; show ¬ actNm = noteNm; decide)
      have n6 : isNote S 6 = false := decide_eq_false (by rw [g6]; show ¬ actW p.shown = noteNm; unfold actW; split <;> decide)
      rw [guessP_none (fun j hj => ?_), hl]
      rw [hl] at hj
      match j, hj with
      | 0, _ => exact n0
      | 1, _ => exact n1
      | 2, _ => exact n2
      | 3, _ => exact n3
      | 4, _ => exact n4
      | 5, _ => exact n5
      | 6, _ => exact n6
    rw [hst]
    have s0 : upP S 0 = { dPr with sender := p.sender } := by
      show startP S = _
      unfold startP
      rw [g0, v0, off_pres]
    have s1 : upP S 1 = { dPr with sender := p.sender } := by
      show stepP S 0 (upP S 0) = _
      unfold stepP
      rw [g0, s0]
      simp only [show (rootP8 p.sender).name = presNm from rfl]
      rw [if_neg (show ¬ presNm = basicNm by decide), if_neg (show ¬ presNm = actNm by decide), if_neg (show ¬ presNm = contNm by decide), if_neg (show ¬ presNm = noteNm by decide)]
    have s2 : upP S 2 = { dPr with sender := p.sender } := by
      show stepP S 1 (upP S 1) = _
      unfold stepP
      rw [g1, s1]
      simp only [show (elemI 1 pidfSp tupleNm [⟨idNm, tT⟩]).name = tupleNm from rfl]
      rw [if_neg (show ¬ tupleNm = basicNm by decide), if_neg (show ¬ tupleNm = actNm by decide), if_neg (show ¬ tupleNm = contNm by decide), if_neg (show ¬ tupleNm = noteNm by decide)]
    have s3 : upP S 3 = { dPr with sender := p.sender } := by
      show stepP S 2 (upP S 2) = _
      unfold stepP
      rw [g2, s2]
      simp only [show (elemI 2 pidfSp stNm []).name = stNm from rfl]
      rw [if_neg (show ¬ stNm = basicNm by decide), if_neg (show ¬ stNm = actNm by decide), if_neg (show ¬ stNm = contNm by decide), if_neg (show ¬ stNm = noteNm by decide)]
    have s4 : upP S 4 = { dPr with sender := p.sender, kind := p.kind } := by
      show stepP S 3 (upP S 3) = _
      unfold stepP
      rw [g3, if_pos (show (elemI 3 pidfSp basicNm []).name = basicNm from rfl), t3, s3]
      rcases h.kd with hk | hk
      · rw [hk, show hasIx basicWs (basicW 0) = 0 by decide +kernel]
      · rw [hk, show hasIx basicWs (basicW 1) = 1 by decide +kernel]
    have s5 : upP S 5 = { dPr with sender := p.sender, kind := p.kind } := by
      show stepP S 4 (upP S 4) = _
      unfold stepP
      rw [g4, s4]
      simp only [show (textI 4 (basicW p.kind)).name = (⟨#[]⟩ : ByteArray) from rfl]
      rw [if_neg (show ¬ (⟨#[]⟩ : ByteArray) = basicNm by decide), if_neg (show ¬ (⟨#[]⟩ : ByteArray) = actNm by decide), if_neg (show ¬ (⟨#[]⟩ : ByteArray) = contNm by decide), if_neg (show ¬ (⟨#[]⟩ : ByteArray) = noteNm by decide)]
    have s6 : upP S 6 = { dPr with sender := p.sender, kind := p.kind, shown := p.shown } := by
      show stepP S 5 (upP S 5) = _
      unfold stepP
      rw [g5, if_neg (show ¬ (elemI 2 rpidSp actNm []).name = basicNm by decide), if_pos (show (elemI 2 rpidSp actNm []).name = actNm from rfl), k5, s5]
    have s7 : upP S 7 = { dPr with sender := p.sender, kind := p.kind, shown := p.shown } := by
      show stepP S 6 (upP S 6) = _
      unfold stepP
      rw [g6, s6]
      simp only [show (elemI 3 rpidSp (actW p.shown) []).name = actW p.shown from rfl]
      have aw : actW p.shown = awayNm ∨ actW p.shown = busyNm := by unfold actW; split; exact .inr rfl; exact .inl rfl
      rcases aw with aw | aw <;> rw [aw, if_neg (by decide), if_neg (by decide), if_neg (by decide), if_neg (by decide)]
    rw [s7]
    obtain ⟨qk, qf, qt, qs, qu, qp, qm⟩ := p
    have e1 := h.gl
    have e2 := h.mo
    dsimp only at e1 e2
    subst e1
    subst e2
    obtain rfl : qp = 0 := hc
    obtain rfl := empty_of hn
    rfl
theorem guess_101 {p : Pr} (h : OwnPr p) (hR : Rises (pidfL p)) (ha : p.shown ≠ 0) (hc : p.prio = 0) (hn : p.status.toList.isEmpty = false) : guessM (pidfL p) = p ∧ guessP (pidfL p) = p := by
  have e := pidf_101 ha hc hn
  obtain ⟨S, hS⟩ : ∃ S, pidfL p = S := ⟨_, rfl⟩
  rw [hS] at e hR ⊢
  have hl : S.length = 9 := by rw [e]; rfl
  have g0 : S.getD 0 dIt = rootP8 p.sender := by rw [e]; rfl
  have g1 : S.getD 1 dIt = elemI 1 pidfSp tupleNm [⟨idNm, tT⟩] := by rw [e]; rfl
  have g2 : S.getD 2 dIt = elemI 2 pidfSp stNm [] := by rw [e]; rfl
  have g3 : S.getD 3 dIt = elemI 3 pidfSp basicNm [] := by rw [e]; rfl
  have g4 : S.getD 4 dIt = textI 4 (basicW p.kind) := by rw [e]; rfl
  have g5 : S.getD 5 dIt = elemI 2 rpidSp actNm [] := by rw [e]; rfl
  have g6 : S.getD 6 dIt = elemI 3 rpidSp (actW p.shown) [] := by rw [e]; rfl
  have g7 : S.getD 7 dIt = elemI 2 pidfSp noteNm [] := by rw [e]; rfl
  have g8 : S.getD 8 dIt = textI 3 p.status := by rw [e]; rfl
  have d0 : dp S 0 = 0 := by unfold dp; rw [g0]; rfl
  have d1 : dp S 1 = 1 := by unfold dp; rw [g1]; rfl
  have d2 : dp S 2 = 2 := by unfold dp; rw [g2]; rfl
  have d3 : dp S 3 = 3 := by unfold dp; rw [g3]; rfl
  have d4 : dp S 4 = 4 := by unfold dp; rw [g4]; rfl
  have d5 : dp S 5 = 2 := by unfold dp; rw [g5]; rfl
  have d6 : dp S 6 = 3 := by unfold dp; rw [g6]; rfl
  have d7 : dp S 7 = 2 := by unfold dp; rw [g7]; rfl
  have d8 : dp S 8 = 3 := by unfold dp; rw [g8]; rfl
  have t3 : txtT (textL S 3) = basicW p.kind := by rw [text_one (by omega) (by rw [d4, d3]; rfl) (.inr (by rw [d5, d3]; decide)) (by rw [g4]; rfl), g4]; rfl
  have t7 : txtT (textL S 7) = p.status := by rw [text_one (by omega) (by rw [d8, d7]; rfl) (.inl (by rw [hl])) (by rw [g8]; rfl), g8]; rfl
  have ax : hasIx actWs (S.getD 6 dIt).name = p.shown := by
    rw [g6]
    show hasIx actWs (actW p.shown) = p.shown
    rcases h.sh with hs | hs | hs
    · exact absurd hs ha
    · rw [hs]; decide +kernel
    · rw [hs]; decide +kernel
  have k5 : showIx S 5 = p.shown := by
    unfold showIx
    rw [kids_one hR (by omega) (by rw [d6, d5]; rfl) (.inr (by rw [d7, d5]; decide)), show ([5 + 1] : List Nat).find? (fun k => decide (0 ≤ hasIx actWs (S.getD k dIt).name)) = some 6 from List.find?_cons_of_pos (p := fun k => decide (0 ≤ hasIx actWs (S.getD k dIt).name)) (decide_eq_true (show 0 ≤ hasIx actWs (S.getD 6 dIt).name by rw [ax]; rcases h.sh with hs | hs | hs <;> omega))]
    exact ax
  have v0 : valT (valueL (rootP8 p.sender).attrs entityNm) = presP ++ p.sender := by
    unfold valueL rootP8 elemI
    rw [List.find?_cons_of_pos (by simp)]
    rfl
  constructor
  · unfold guessM
    rw [hl]
    have s0 : upM S 0 = { dPr with sender := p.sender } := by
      show startM S = _
      unfold startM
      rw [g0, v0, behind_pres _ h.sz]
    have s1 : upM S 1 = { dPr with sender := p.sender } := by
      show stepM S 0 (upM S 0) = _
      unfold stepM
      rw [g0, s0]
      simp only [show (rootP8 p.sender).name = presNm from rfl]
      rw [if_neg (show ¬ presNm = basicNm by decide), if_neg (show ¬ presNm = awayNm by decide), if_neg (show ¬ presNm = busyNm by decide), if_neg (show ¬ presNm = noteNm by decide), if_neg (show ¬ presNm = contNm by decide)]
    have s2 : upM S 2 = { dPr with sender := p.sender } := by
      show stepM S 1 (upM S 1) = _
      unfold stepM
      rw [g1, s1]
      simp only [show (elemI 1 pidfSp tupleNm [⟨idNm, tT⟩]).name = tupleNm from rfl]
      rw [if_neg (show ¬ tupleNm = basicNm by decide), if_neg (show ¬ tupleNm = awayNm by decide), if_neg (show ¬ tupleNm = busyNm by decide), if_neg (show ¬ tupleNm = noteNm by decide), if_neg (show ¬ tupleNm = contNm by decide)]
    have s3 : upM S 3 = { dPr with sender := p.sender } := by
      show stepM S 2 (upM S 2) = _
      unfold stepM
      rw [g2, s2]
      simp only [show (elemI 2 pidfSp stNm []).name = stNm from rfl]
      rw [if_neg (show ¬ stNm = basicNm by decide), if_neg (show ¬ stNm = awayNm by decide), if_neg (show ¬ stNm = busyNm by decide), if_neg (show ¬ stNm = noteNm by decide), if_neg (show ¬ stNm = contNm by decide)]
    have s4 : upM S 4 = { dPr with sender := p.sender, kind := p.kind } := by
      show stepM S 3 (upM S 3) = _
      unfold stepM
      rw [g3, if_pos (show (elemI 3 pidfSp basicNm []).name = basicNm from rfl), t3, s3]
      rcases h.kd with hk | hk
      · rw [hk, if_neg (by decide)]; rfl
      · rw [hk, if_pos (by decide)]
    have s5 : upM S 5 = { dPr with sender := p.sender, kind := p.kind } := by
      show stepM S 4 (upM S 4) = _
      unfold stepM
      rw [g4, s4]
      simp only [show (textI 4 (basicW p.kind)).name = (⟨#[]⟩ : ByteArray) from rfl]
      rw [if_neg (show ¬ (⟨#[]⟩ : ByteArray) = basicNm by decide), if_neg (show ¬ (⟨#[]⟩ : ByteArray) = awayNm by decide), if_neg (show ¬ (⟨#[]⟩ : ByteArray) = busyNm by decide), if_neg (show ¬ (⟨#[]⟩ : ByteArray) = noteNm by decide), if_neg (show ¬ (⟨#[]⟩ : ByteArray) = contNm by decide)]
    have s6 : upM S 6 = { dPr with sender := p.sender, kind := p.kind } := by
      show stepM S 5 (upM S 5) = _
      unfold stepM
      rw [g5, s5]
      simp only [show (elemI 2 rpidSp actNm []).name = actNm from rfl]
      rw [if_neg (show ¬ actNm = basicNm by decide), if_neg (show ¬ actNm = awayNm by decide), if_neg (show ¬ actNm = busyNm by decide), if_neg (show ¬ actNm = noteNm by decide), if_neg (show ¬ actNm = contNm by decide)]
    have s7 : upM S 7 = { dPr with sender := p.sender, kind := p.kind, shown := p.shown } := by
      show stepM S 6 (upM S 6) = _
      unfold stepM
      rw [g6, s6]
      rcases h.sh with hs | hs | hs
      · exact absurd hs ha
      · rw [hs, if_neg (by decide), if_pos (by decide)]
      · rw [hs, if_neg (by decide), if_neg (by decide), if_pos (by decide)]
    have s8 : upM S 8 = { dPr with sender := p.sender, kind := p.kind, shown := p.shown, status := p.status } := by
      show stepM S 7 (upM S 7) = _
      unfold stepM
      rw [g7, if_neg (show ¬ (elemI 2 pidfSp noteNm []).name = basicNm by decide), if_neg (show ¬ (elemI 2 pidfSp noteNm []).name = awayNm by decide), if_neg (show ¬ (elemI 2 pidfSp noteNm []).name = busyNm by decide), if_pos (show (elemI 2 pidfSp noteNm []).name = noteNm from rfl), t7, s7]
    have s9 : upM S 9 = { dPr with sender := p.sender, kind := p.kind, shown := p.shown, status := p.status } := by
      show stepM S 8 (upM S 8) = _
      unfold stepM
      rw [g8, s8]
      simp only [show (textI 3 p.status).name = (⟨#[]⟩ : ByteArray) from rfl]
      rw [if_neg (show ¬ (⟨#[]⟩ : ByteArray) = basicNm by decide), if_neg (show ¬ (⟨#[]⟩ : ByteArray) = awayNm by decide), if_neg (show ¬ (⟨#[]⟩ : ByteArray) = busyNm by decide), if_neg (show ¬ (⟨#[]⟩ : ByteArray) = noteNm by decide), if_neg (show ¬ (⟨#[]⟩ : ByteArray) = contNm by decide)]
    rw [s9]
    obtain ⟨qk, qf, qt, qs, qu, qp, qm⟩ := p
    have e1 := h.gl
    have e2 := h.mo
    dsimp only at e1 e2
    subst e1
    subst e2
    obtain rfl : qp = 0 := hc
    rfl
  · have hst : guessP S = upP S 8 := by
      have n0 : isNote S 0 = false := decide_eq_false (by rw [g0]; show ¬ presNm = noteNm; decide)
      have n1 : isNote S 1 = false := decide_eq_false (by rw [g1]; show ¬ tupleNm = noteNm; decide)
      have n2 : isNote S 2 = false := decide_eq_false (by rw [g2]; show ¬ stNm = noteNm; decide)
      have n3 : isNote S 3 = false := decide_eq_false (by rw [g3]; show ¬ basicNm = noteNm; decide)
      have n4 : isNote S 4 = false := decide_eq_false (by rw [g4]; show ¬ (⟨#[]⟩ : ByteArray) = noteNm; decide)
      have n5 : isNote S 5 = false := decide_eq_false (by rw [g5]; show ¬ actNm = noteNm; decide)
      have n6 : isNote S 6 = false := decide_eq_false (by rw [g6]; show ¬ actW p.shown = noteNm; unfold actW; split <;> decide)
      refine guessP_note (by omega) (fun j hj => ?_) (decide_eq_true (by rw [g7]; rfl))
      match j, hj with
      | 0, _ => exact n0
      | 1, _ => exact n1
      | 2, _ => exact n2
      | 3, _ => exact n3
      | 4, _ => exact n4
      | 5, _ => exact n5
      | 6, _ => exact n6
    rw [hst]
    have s0 : upP S 0 = { dPr with sender := p.sender } := by
      show startP S = _
      unfold startP
      rw [g0, v0, off_pres]
    have s1 : upP S 1 = { dPr with sender := p.sender } := by
      show stepP S 0 (upP S 0) = _
      unfold stepP
      rw [g0, s0]
      simp only [show (rootP8 p.sender).name = presNm from rfl]
      rw [if_neg (show ¬ presNm = basicNm by decide), if_neg (show ¬ presNm = actNm by decide), if_neg (show ¬ presNm = contNm by decide), if_neg (show ¬ presNm = noteNm by decide)]
    have s2 : upP S 2 = { dPr with sender := p.sender } := by
      show stepP S 1 (upP S 1) = _
      unfold stepP
      rw [g1, s1]
      simp only [show (elemI 1 pidfSp tupleNm [⟨idNm, tT⟩]).name = tupleNm from rfl]
      rw [if_neg (show ¬ tupleNm = basicNm by decide), if_neg (show ¬ tupleNm = actNm by decide), if_neg (show ¬ tupleNm = contNm by decide), if_neg (show ¬ tupleNm = noteNm by decide)]
    have s3 : upP S 3 = { dPr with sender := p.sender } := by
      show stepP S 2 (upP S 2) = _
      unfold stepP
      rw [g2, s2]
      simp only [show (elemI 2 pidfSp stNm []).name = stNm from rfl]
      rw [if_neg (show ¬ stNm = basicNm by decide), if_neg (show ¬ stNm = actNm by decide), if_neg (show ¬ stNm = contNm by decide), if_neg (show ¬ stNm = noteNm by decide)]
    have s4 : upP S 4 = { dPr with sender := p.sender, kind := p.kind } := by
      show stepP S 3 (upP S 3) = _
      unfold stepP
      rw [g3, if_pos (show (elemI 3 pidfSp basicNm []).name = basicNm from rfl), t3, s3]
      rcases h.kd with hk | hk
      · rw [hk, show hasIx basicWs (basicW 0) = 0 by decide +kernel]
      · rw [hk, show hasIx basicWs (basicW 1) = 1 by decide +kernel]
    have s5 : upP S 5 = { dPr with sender := p.sender, kind := p.kind } := by
      show stepP S 4 (upP S 4) = _
      unfold stepP
      rw [g4, s4]
      simp only [show (textI 4 (basicW p.kind)).name = (⟨#[]⟩ : ByteArray) from rfl]
      rw [if_neg (show ¬ (⟨#[]⟩ : ByteArray) = basicNm by decide), if_neg (show ¬ (⟨#[]⟩ : ByteArray) = actNm by decide), if_neg (show ¬ (⟨#[]⟩ : ByteArray) = contNm by decide), if_neg (show ¬ (⟨#[]⟩ : ByteArray) = noteNm by decide)]
    have s6 : upP S 6 = { dPr with sender := p.sender, kind := p.kind, shown := p.shown } := by
      show stepP S 5 (upP S 5) = _
      unfold stepP
      rw [g5, if_neg (show ¬ (elemI 2 rpidSp actNm []).name = basicNm by decide), if_pos (show (elemI 2 rpidSp actNm []).name = actNm from rfl), k5, s5]
    have s7 : upP S 7 = { dPr with sender := p.sender, kind := p.kind, shown := p.shown } := by
      show stepP S 6 (upP S 6) = _
      unfold stepP
      rw [g6, s6]
      simp only [show (elemI 3 rpidSp (actW p.shown) []).name = actW p.shown from rfl]
      have aw : actW p.shown = awayNm ∨ actW p.shown = busyNm := by unfold actW; split; exact .inr rfl; exact .inl rfl
      rcases aw with aw | aw <;> rw [aw, if_neg (by decide), if_neg (by decide), if_neg (by decide), if_neg (by decide)]
    have s8 : upP S 8 = { dPr with sender := p.sender, kind := p.kind, shown := p.shown, status := p.status } := by
      show stepP S 7 (upP S 7) = _
      unfold stepP
      rw [g7, if_neg (show ¬ (elemI 2 pidfSp noteNm []).name = basicNm by decide), if_neg (show ¬ (elemI 2 pidfSp noteNm []).name = actNm by decide), if_neg (show ¬ (elemI 2 pidfSp noteNm []).name = contNm by decide), if_pos (show (elemI 2 pidfSp noteNm []).name = noteNm from rfl), t7, s7]
    rw [s8]
    obtain ⟨qk, qf, qt, qs, qu, qp, qm⟩ := p
    have e1 := h.gl
    have e2 := h.mo
    dsimp only at e1 e2
    subst e1
    subst e2
    obtain rfl : qp = 0 := hc
    rfl
theorem guess_110 {p : Pr} (h : OwnPr p) (hR : Rises (pidfL p)) (ha : p.shown ≠ 0) (hc : p.prio ≠ 0) (hn : p.status.toList.isEmpty = true) : guessM (pidfL p) = p ∧ guessP (pidfL p) = p := by
  have e := pidf_110 ha hc hn
  obtain ⟨S, hS⟩ : ∃ S, pidfL p = S := ⟨_, rfl⟩
  rw [hS] at e hR ⊢
  have hl : S.length = 9 := by rw [e]; rfl
  have g0 : S.getD 0 dIt = rootP8 p.sender := by rw [e]; rfl
  have g1 : S.getD 1 dIt = elemI 1 pidfSp tupleNm [⟨idNm, tT⟩] := by rw [e]; rfl
  have g2 : S.getD 2 dIt = elemI 2 pidfSp stNm [] := by rw [e]; rfl
  have g3 : S.getD 3 dIt = elemI 3 pidfSp basicNm [] := by rw [e]; rfl
  have g4 : S.getD 4 dIt = textI 4 (basicW p.kind) := by rw [e]; rfl
  have g5 : S.getD 5 dIt = elemI 2 rpidSp actNm [] := by rw [e]; rfl
  have g6 : S.getD 6 dIt = elemI 3 rpidSp (actW p.shown) [] := by rw [e]; rfl
  have g7 : S.getD 7 dIt = elemI 2 pidfSp contNm [⟨prioKey, shareText (thouVal p.prio)⟩] := by rw [e]; rfl
  have g8 : S.getD 8 dIt = textI 3 (xmppP ++ p.sender) := by rw [e]; rfl
  have d0 : dp S 0 = 0 := by unfold dp; rw [g0]; rfl
  have d1 : dp S 1 = 1 := by unfold dp; rw [g1]; rfl
  have d2 : dp S 2 = 2 := by unfold dp; rw [g2]; rfl
  have d3 : dp S 3 = 3 := by unfold dp; rw [g3]; rfl
  have d4 : dp S 4 = 4 := by unfold dp; rw [g4]; rfl
  have d5 : dp S 5 = 2 := by unfold dp; rw [g5]; rfl
  have d6 : dp S 6 = 3 := by unfold dp; rw [g6]; rfl
  have d7 : dp S 7 = 2 := by unfold dp; rw [g7]; rfl
  have d8 : dp S 8 = 3 := by unfold dp; rw [g8]; rfl
  have t3 : txtT (textL S 3) = basicW p.kind := by rw [text_one (by omega) (by rw [d4, d3]; rfl) (.inr (by rw [d5, d3]; decide)) (by rw [g4]; rfl), g4]; rfl
  have ax : hasIx actWs (S.getD 6 dIt).name = p.shown := by
    rw [g6]
    show hasIx actWs (actW p.shown) = p.shown
    rcases h.sh with hs | hs | hs
    · exact absurd hs ha
    · rw [hs]; decide +kernel
    · rw [hs]; decide +kernel
  have k5 : showIx S 5 = p.shown := by
    unfold showIx
    rw [kids_one hR (by omega) (by rw [d6, d5]; rfl) (.inr (by rw [d7, d5]; decide)), show ([5 + 1] : List Nat).find? (fun k => decide (0 ≤ hasIx actWs (S.getD k dIt).name)) = some 6 from List.find?_cons_of_pos (p := fun k => decide (0 ≤ hasIx actWs (S.getD k dIt).name)) (decide_eq_true (show 0 ≤ hasIx actWs (S.getD 6 dIt).name by rw [ax]; rcases h.sh with hs | hs | hs <;> omega))]
    exact ax
  have v0 : valT (valueL (rootP8 p.sender).attrs entityNm) = presP ++ p.sender := by
    unfold valueL rootP8 elemI
    rw [List.find?_cons_of_pos (by simp)]
    rfl
  have vc : valT (valueL (elemI 2 pidfSp contNm [⟨prioKey, shareText (thouVal p.prio)⟩]).attrs prioKey) = shareText (thouVal p.prio) := by
    unfold valueL elemI
    rw [List.find?_cons_of_pos (by simp)]
    rfl
  obtain ⟨pk, hpk⟩ : ∃ k : Nat, p.prio = (k : Int) := ⟨p.prio.toNat, by have := h.pr.1; omega⟩
  have hk127 : pk ≤ 127 := by have := h.pr.2; omega
  have b1 : prioVal (read8 (shareText (thouVal p.prio))) = p.prio := by rw [hpk]; exact share_back pk hk127
  have b2 : prioWith (shareText (thouVal p.prio)) = p.prio := by rw [hpk]; exact share_with pk (by omega) hk127
  constructor
  · unfold guessM
    rw [hl]
    have s0 : upM S 0 = { dPr with sender := p.sender } := by
      show startM S = _
      unfold startM
      rw [g0, v0, behind_pres _ h.sz]
    have s1 : upM S 1 = { dPr with sender := p.sender } := by
      show stepM S 0 (upM S 0) = _
      unfold stepM
      rw [g0, s0]
      simp only [show (rootP8 p.sender).name = presNm from rfl]
      rw [if_neg (show ¬ presNm = basicNm by decide), if_neg (show ¬ presNm = awayNm by decide), if_neg (show ¬ presNm = busyNm by decide), if_neg (show ¬ presNm = noteNm by decide), if_neg (show ¬ presNm = contNm by decide)]
    have s2 : upM S 2 = { dPr with sender := p.sender } := by
      show stepM S 1 (upM S 1) = _
      unfold stepM
      rw [g1, s1]
      simp only [show (elemI 1 pidfSp tupleNm [⟨idNm, tT⟩]).name = tupleNm from rfl]
      rw [if_neg (show ¬ tupleNm = basicNm by decide), if_neg (show ¬ tupleNm = awayNm by decide), if_neg (show ¬ tupleNm = busyNm by decide), if_neg (show ¬ tupleNm = noteNm by decide), if_neg (show ¬ tupleNm = contNm by decide)]
    have s3 : upM S 3 = { dPr with sender := p.sender } := by
      show stepM S 2 (upM S 2) = _
      unfold stepM
      rw [g2, s2]
      simp only [show (elemI 2 pidfSp stNm []).name = stNm from rfl]
      rw [if_neg (show ¬ stNm = basicNm by decide), if_neg (show ¬ stNm = awayNm by decide), if_neg (show ¬ stNm = busyNm by decide), if_neg (show ¬ stNm = noteNm by decide), if_neg (show ¬ stNm = contNm by decide)]
    have s4 : upM S 4 = { dPr with sender := p.sender, kind := p.kind } := by
      show stepM S 3 (upM S 3) = _
      unfold stepM
      rw [g3, if_pos (show (elemI 3 pidfSp basicNm []).name = basicNm from rfl), t3, s3]
      rcases h.kd with hk | hk
      · rw [hk, if_neg (by decide)]; rfl
      · rw [hk, if_pos (by decide)]
    have s5 : upM S 5 = { dPr with sender := p.sender, kind := p.kind } := by
      show stepM S 4 (upM S 4) = _
      unfold stepM
      rw [g4, s4]
      simp only [show (textI 4 (basicW p.kind)).name = (⟨#[]⟩ : ByteArray) from rfl]
      rw [if_neg (show ¬ (⟨#[]⟩ : ByteArray) = basicNm by decide), if_neg (show ¬ (⟨#[]⟩ : ByteArray) = awayNm by decide), if_neg (show ¬ (⟨#[]⟩ : ByteArray) = busyNm by decide), if_neg (show ¬ (⟨#[]⟩ : ByteArray) = noteNm by decide), if_neg (show ¬ (⟨#[]⟩ : ByteArray) = contNm by decide)]
    have s6 : upM S 6 = { dPr with sender := p.sender, kind := p.kind } := by
      show stepM S 5 (upM S 5) = _
      unfold stepM
      rw [g5, s5]
      simp only [show (elemI 2 rpidSp actNm []).name = actNm from rfl]
      rw [if_neg (show ¬ actNm = basicNm by decide), if_neg (show ¬ actNm = awayNm by decide), if_neg (show ¬ actNm = busyNm by decide), if_neg (show ¬ actNm = noteNm by decide), if_neg (show ¬ actNm = contNm by decide)]
    have s7 : upM S 7 = { dPr with sender := p.sender, kind := p.kind, shown := p.shown } := by
      show stepM S 6 (upM S 6) = _
      unfold stepM
      rw [g6, s6]
      rcases h.sh with hs | hs | hs
      · exact absurd hs ha
      · rw [hs, if_neg (by decide), if_pos (by decide)]
      · rw [hs, if_neg (by decide), if_neg (by decide), if_pos (by decide)]
    have s8 : upM S 8 = { dPr with sender := p.sender, kind := p.kind, shown := p.shown, prio := p.prio } := by
      show stepM S 7 (upM S 7) = _
      unfold stepM
      rw [g7, if_neg (show ¬ (elemI 2 pidfSp contNm [⟨prioKey, shareText (thouVal p.prio)⟩]).name = basicNm by show ¬ contNm = basicNm; decide), if_neg (show ¬ (elemI 2 pidfSp contNm [⟨prioKey, shareText (thouVal p.prio)⟩]).name = awayNm by show ¬ contNm = awayNm; decide), if_neg (show ¬ (elemI 2 pidfSp contNm [⟨prioKey, shareText (thouVal p.prio)⟩]).name = busyNm by show ¬ contNm = busyNm; decide), if_neg (show ¬ (elemI 2 pidfSp contNm [⟨prioKey, shareText (thouVal p.prio)⟩]).name = noteNm by show ¬ contNm = noteNm; decide), if_pos (show (elemI 2 pidfSp contNm [⟨prioKey, shareText (thouVal p.prio)⟩]).name = contNm from rfl), vc, b1, s7]
    have s9 : upM S 9 = { dPr with sender := p.sender, kind := p.kind, shown := p.shown, prio := p.prio } := by
      show stepM S 8 (upM S 8) = _
      unfold stepM
      rw [g8, s8]
      simp only [show (textI 3 (xmppP ++ p.sender)).name = (⟨#[]⟩ : ByteArray) from rfl]
      rw [if_neg (show ¬ (⟨#[]⟩ : ByteArray) = basicNm by decide), if_neg (show ¬ (⟨#[]⟩ : ByteArray) = awayNm by decide), if_neg (show ¬ (⟨#[]⟩ : ByteArray) = busyNm by decide), if_neg (show ¬ (⟨#[]⟩ : ByteArray) = noteNm by decide), if_neg (show ¬ (⟨#[]⟩ : ByteArray) = contNm by decide)]
    rw [s9]
    obtain ⟨qk, qf, qt, qs, qu, qp, qm⟩ := p
    have e1 := h.gl
    have e2 := h.mo
    dsimp only at e1 e2
    subst e1
    subst e2
    obtain rfl := empty_of hn
    rfl
  · have hst : guessP S = upP S 9 := by
      have n0 : isNote S 0 = false := decide_eq_false (by rw [g0]; show ¬ presNm = noteNm; decide)
      have n1 : isNote S 1 = false := decide_eq_false (by rw [g1]; show ¬ tupleNm = noteNm; decide)
      have n2 : isNote S 2 = false := decide_eq_false (by rw [g2]; show ¬ stNm = noteNm; decide)
      have n3 : isNote S 3 = false := decide_eq_false (by rw [g3]; show ¬ basicNm = noteNm; decide)
      have n4 : isNote S 4 = false := decide_eq_false (by rw [g4]; show ¬ (⟨#[]⟩ : ByteArray) = noteNm; decide)
      have n5 : isNote S 5 = false := decide_eq_false (by rw [g5]; show ¬ actNm = noteNm; decide)
      have n6 : isNote S 6 = false := decide_eq_false (by rw [g6]; show ¬ actW p.shown = noteNm; unfold actW; split <;> decide)
      have n7 : isNote S 7 = false := decide_eq_false (by rw [g7]; show ¬ contNm = noteNm; decide)
      have n8 : isNote S 8 = false := decide_eq_false (by rw [g8]; show ¬ (⟨#[]⟩ : ByteArray) = noteNm; decide)
      rw [guessP_none (fun j hj => ?_), hl]
      rw [hl] at hj
      match j, hj with
      | 0, _ => exact n0
      | 1, _ => exact n1
      | 2, _ => exact n2
      | 3, _ => exact n3
      | 4, _ => exact n4
      | 5, _ => exact n5
      | 6, _ => exact n6
      | 7, _ => exact n7
      | 8, _ => exact n8
    rw [hst]
    have s0 : upP S 0 = { dPr with sender := p.sender } := by
      show startP S = _
      unfold startP
      rw [g0, v0, off_pres]
    have s1 : upP S 1 = { dPr with sender := p.sender } := by
      show stepP S 0 (upP S 0) = _
      unfold stepP
      rw [g0, s0]
      simp only [show (rootP8 p.sender).name = presNm from rfl]
      rw [if_neg (show ¬ presNm = basicNm by decide), if_neg (show ¬ presNm = actNm by decide), if_neg (show ¬ presNm = contNm by decide), if_neg (show ¬ presNm = noteNm by decide)]
    have s2 : upP S 2 = { dPr with sender := p.sender } := by
      show stepP S 1 (upP S 1) = _
      unfold stepP
      rw [g1, s1]
      simp only [show (elemI 1 pidfSp tupleNm [⟨idNm, tT⟩]).name = tupleNm from rfl]
      rw [if_neg (show ¬ tupleNm = basicNm by decide), if_neg (show ¬ tupleNm = actNm by decide), if_neg (show ¬ tupleNm = contNm by decide), if_neg (show ¬ tupleNm = noteNm by decide)]
    have s3 : upP S 3 = { dPr with sender := p.sender } := by
      show stepP S 2 (upP S 2) = _
      unfold stepP
      rw [g2, s2]
      simp only [show (elemI 2 pidfSp stNm []).name = stNm from rfl]
      rw [if_neg (show ¬ stNm = basicNm by decide), if_neg (show ¬ stNm = actNm by decide), if_neg (show ¬ stNm = contNm by decide), if_neg (show ¬ stNm = noteNm by decide)]
    have s4 : upP S 4 = { dPr with sender := p.sender, kind := p.kind } := by
      show stepP S 3 (upP S 3) = _
      unfold stepP
      rw [g3, if_pos (show (elemI 3 pidfSp basicNm []).name = basicNm from rfl), t3, s3]
      rcases h.kd with hk | hk
      · rw [hk, show hasIx basicWs (basicW 0) = 0 by decide +kernel]
      · rw [hk, show hasIx basicWs (basicW 1) = 1 by decide +kernel]
    have s5 : upP S 5 = { dPr with sender := p.sender, kind := p.kind } := by
      show stepP S 4 (upP S 4) = _
      unfold stepP
      rw [g4, s4]
      simp only [show (textI 4 (basicW p.kind)).name = (⟨#[]⟩ : ByteArray) from rfl]
      rw [if_neg (show ¬ (⟨#[]⟩ : ByteArray) = basicNm by decide), if_neg (show ¬ (⟨#[]⟩ : ByteArray) = actNm by decide), if_neg (show ¬ (⟨#[]⟩ : ByteArray) = contNm by decide), if_neg (show ¬ (⟨#[]⟩ : ByteArray) = noteNm by decide)]
    have s6 : upP S 6 = { dPr with sender := p.sender, kind := p.kind, shown := p.shown } := by
      show stepP S 5 (upP S 5) = _
      unfold stepP
      rw [g5, if_neg (show ¬ (elemI 2 rpidSp actNm []).name = basicNm by decide), if_pos (show (elemI 2 rpidSp actNm []).name = actNm from rfl), k5, s5]
    have s7 : upP S 7 = { dPr with sender := p.sender, kind := p.kind, shown := p.shown } := by
      show stepP S 6 (upP S 6) = _
      unfold stepP
      rw [g6, s6]
      simp only [show (elemI 3 rpidSp (actW p.shown) []).name = actW p.shown from rfl]
      have aw : actW p.shown = awayNm ∨ actW p.shown = busyNm := by unfold actW; split; exact .inr rfl; exact .inl rfl
      rcases aw with aw | aw <;> rw [aw, if_neg (by decide), if_neg (by decide), if_neg (by decide), if_neg (by decide)]
    have s8 : upP S 8 = { dPr with sender := p.sender, kind := p.kind, shown := p.shown, prio := p.prio } := by
      show stepP S 7 (upP S 7) = _
      unfold stepP
      rw [g7, if_neg (show ¬ (elemI 2 pidfSp contNm [⟨prioKey, shareText (thouVal p.prio)⟩]).name = basicNm by show ¬ contNm = basicNm; decide), if_neg (show ¬ (elemI 2 pidfSp contNm [⟨prioKey, shareText (thouVal p.prio)⟩]).name = actNm by show ¬ contNm = actNm; decide), if_pos (show (elemI 2 pidfSp contNm [⟨prioKey, shareText (thouVal p.prio)⟩]).name = contNm from rfl), vc, b2, s7]
    have s9 : upP S 9 = { dPr with sender := p.sender, kind := p.kind, shown := p.shown, prio := p.prio } := by
      show stepP S 8 (upP S 8) = _
      unfold stepP
      rw [g8, s8]
      simp only [show (textI 3 (xmppP ++ p.sender)).name = (⟨#[]⟩ : ByteArray) from rfl]
      rw [if_neg (show ¬ (⟨#[]⟩ : ByteArray) = basicNm by decide), if_neg (show ¬ (⟨#[]⟩ : ByteArray) = actNm by decide), if_neg (show ¬ (⟨#[]⟩ : ByteArray) = contNm by decide), if_neg (show ¬ (⟨#[]⟩ : ByteArray) = noteNm by decide)]
    rw [s9]
    obtain ⟨qk, qf, qt, qs, qu, qp, qm⟩ := p
    have e1 := h.gl
    have e2 := h.mo
    dsimp only at e1 e2
    subst e1
    subst e2
    obtain rfl := empty_of hn
    rfl
theorem guess_111 {p : Pr} (h : OwnPr p) (hR : Rises (pidfL p)) (ha : p.shown ≠ 0) (hc : p.prio ≠ 0) (hn : p.status.toList.isEmpty = false) : guessM (pidfL p) = p ∧ guessP (pidfL p) = p := by
  have e := pidf_111 ha hc hn
  obtain ⟨S, hS⟩ : ∃ S, pidfL p = S := ⟨_, rfl⟩
  rw [hS] at e hR ⊢
  have hl : S.length = 11 := by rw [e]; rfl
  have g0 : S.getD 0 dIt = rootP8 p.sender := by rw [e]; rfl
  have g1 : S.getD 1 dIt = elemI 1 pidfSp tupleNm [⟨idNm, tT⟩] := by rw [e]; rfl
  have g2 : S.getD 2 dIt = elemI 2 pidfSp stNm [] := by rw [e]; rfl
  have g3 : S.getD 3 dIt = elemI 3 pidfSp basicNm [] := by rw [e]; rfl
  have g4 : S.getD 4 dIt = textI 4 (basicW p.kind) := by rw [e]; rfl
  have g5 : S.getD 5 dIt = elemI 2 rpidSp actNm [] := by rw [e]; rfl
  have g6 : S.getD 6 dIt = elemI 3 rpidSp (actW p.shown) [] := by rw [e]; rfl
  have g7 : S.getD 7 dIt = elemI 2 pidfSp contNm [⟨prioKey, shareText (thouVal p.prio)⟩] := by rw [e]; rfl
  have g8 : S.getD 8 dIt = textI 3 (xmppP ++ p.sender) := by rw [e]; rfl
  have g9 : S.getD 9 dIt = elemI 2 pidfSp noteNm [] := by rw [e]; rfl
  have g10 : S.getD 10 dIt = textI 3 p.status := by rw [e]; rfl
  have d0 : dp S 0 = 0 := by unfold dp; rw [g0]; rfl
  have d1 : dp S 1 = 1 := by unfold dp; rw [g1]; rfl
  have d2 : dp S 2 = 2 := by unfold dp; rw [g2]; rfl
  have d3 : dp S 3 = 3 := by unfold dp; rw [g3]; rfl
  have d4 : dp S 4 = 4 := by unfold dp; rw [g4]; rfl
  have d5 : dp S 5 = 2 := by unfold dp; rw [g5]; rfl
  have d6 : dp S 6 = 3 := by unfold dp; rw [g6]; rfl
  have d7 : dp S 7 = 2 := by unfold dp; rw [g7]; rfl
  have d8 : dp S 8 = 3 := by unfold dp; rw [g8]; rfl
  have d9 : dp S 9 = 2 := by unfold dp; rw [g9]; rfl
  have d10 : dp S 10 = 3 := by unfold dp; rw [g10]; rfl
  have t3 : txtT (textL S 3) = basicW p.kind := by rw [text_one (by omega) (by rw [d4, d3]; rfl) (.inr (by rw [d5, d3]; decide)) (by rw [g4]; rfl), g4]; rfl
  have t9 : txtT (textL S 9) = p.status := by rw [text_one (by omega) (by rw [d10, d9]; rfl) (.inl (by rw [hl])) (by rw [g10]; rfl), g10]; rfl
  have ax : hasIx actWs (S.getD 6 dIt).name = p.shown := by
    rw [g6]
    show hasIx actWs (actW p.shown) = p.shown
    rcases h.sh with hs | hs | hs
    · exact absurd hs ha
    · rw [hs]; decide +kernel
    · rw [hs]; decide +kernel
  have k5 : showIx S 5 = p.shown := by
    unfold showIx
    rw [kids_one hR (by omega) (by rw [d6, d5]; rfl) (.inr (by rw [d7, d5]; decide)), show ([5 + 1] : List Nat).find? (fun k => decide (0 ≤ hasIx actWs (S.getD k dIt).name)) = some 6 from List.find?_cons_of_pos (p := fun k => decide (0 ≤ hasIx actWs (S.getD k dIt).name)) (decide_eq_true (show 0 ≤ hasIx actWs (S.getD 6 dIt).name by rw [ax]; rcases h.sh with hs | hs | hs <;> omega))]
    exact ax
  have v0 : valT (valueL (rootP8 p.sender).attrs entityNm) = presP ++ p.sender := by
    unfold valueL rootP8 elemI
    rw [List.find?_cons_of_pos (by simp)]
    rfl
  have vc : valT (valueL (elemI 2 pidfSp contNm [⟨prioKey, shareText (thouVal p.prio)⟩]).attrs prioKey) = shareText (thouVal p.prio) := by
    unfold valueL elemI
    rw [List.find?_cons_of_pos (by simp)]
    rfl
  obtain ⟨pk, hpk⟩ : ∃ k : Nat, p.prio = (k : Int) := ⟨p.prio.toNat, by have := h.pr.1; omega⟩
  have hk127 : pk ≤ 127 := by have := h.pr.2; omega
  have b1 : prioVal (read8 (shareText (thouVal p.prio))) = p.prio := by rw [hpk]; exact share_back pk hk127
  have b2 : prioWith (shareText (thouVal p.prio)) = p.prio := by rw [hpk]; exact share_with pk (by omega) hk127
  constructor
  · unfold guessM
    rw [hl]
    have s0 : upM S 0 = { dPr with sender := p.sender } := by
      show startM S = _
      unfold startM
      rw [g0, v0, behind_pres _ h.sz]
    have s1 : upM S 1 = { dPr with sender := p.sender } := by
      show stepM S 0 (upM S 0) = _
      unfold stepM
      rw [g0, s0]
      simp only [show (rootP8 p.sender).name = presNm from rfl]
      rw [if_neg (show ¬ presNm = basicNm by decide), if_neg (show ¬ presNm = awayNm by decide), if_neg (show ¬ presNm = busyNm by decide), if_neg (show ¬ presNm = noteNm by decide), if_neg (show ¬ presNm = contNm by decide)]
    have s2 : upM S 2 = { dPr with sender := p.sender } := by
      show stepM S 1 (upM S 1) = _
      unfold stepM
      rw [g1, s1]
      simp only [show (elemI 1 pidfSp tupleNm [⟨idNm, tT⟩]).name = tupleNm from rfl]
      rw [if_neg (show ¬ tupleNm = basicNm by decide), if_neg (show ¬ tupleNm = awayNm by decide), if_neg (show ¬ tupleNm = busyNm by decide), if_neg (show ¬ tupleNm = noteNm by decide), if_neg (show ¬ tupleNm = contNm by decide)]
    have s3 : upM S 3 = { dPr with sender := p.sender } := by
      show stepM S 2 (upM S 2) = _
      unfold stepM
      rw [g2, s2]
      simp only [show (elemI 2 pidfSp stNm []).name = stNm from rfl]
      rw [if_neg (show ¬ stNm = basicNm by decide), if_neg (show ¬ stNm = awayNm by decide), if_neg (show ¬ stNm = busyNm by decide), if_neg (show ¬ stNm = noteNm by decide), if_neg (show ¬ stNm = contNm by decide)]
    have s4 : upM S 4 = { dPr with sender := p.sender, kind := p.kind } := by
      show stepM S 3 (upM S 3) = _
      unfold stepM
      rw [g3, if_pos (show (elemI 3 pidfSp basicNm []).name = basicNm from rfl), t3, s3]
      rcases h.kd with hk | hk
      · rw [hk, if_neg (by decide)]; rfl
      · rw [hk, if_pos (by decide)]
    have s5 : upM S 5 = { dPr with sender := p.sender, kind := p.kind } := by
      show stepM S 4 (upM S 4) = _
      unfold stepM
      rw [g4, s4]
      simp only [show (textI 4 (basicW p.kind)).name = (⟨#[]⟩ : ByteArray) from rfl]
      rw [if_neg (show ¬ (⟨#[]⟩ : ByteArray) = basicNm by decide), if_neg (show ¬ (⟨#[]⟩ : ByteArray) = awayNm by decide), if_neg (show ¬ (⟨#[]⟩ : ByteArray) = busyNm by decide), if_neg (show ¬ (⟨#[]⟩ : ByteArray) = noteNm by decide), if_neg (show ¬ (⟨#[]⟩ : ByteArray) = contNm by decide)]
    have s6 : upM S 6 = { dPr with sender := p.sender, kind := p.kind } := by
      show stepM S 5 (upM S 5) = _
      unfold stepM
      rw [g5, s5]
      simp only [show (elemI 2 rpidSp actNm []).name = actNm from rfl]
      rw [if_neg (show ¬ actNm = basicNm by decide), if_neg (show ¬ actNm = awayNm by decide), if_neg (show ¬ actNm = busyNm by decide), if_neg (show ¬ actNm = noteNm by decide), if_neg (show ¬ actNm = contNm by decide)]
    have s7 : upM S 7 = { dPr with sender := p.sender, kind := p.kind, shown := p.shown } := by
      show stepM S 6 (upM S 6) = _
      unfold stepM
      rw [g6, s6]
      rcases h.sh with hs | hs | hs
      · exact absurd hs ha
      · rw [hs, if_neg (by decide), if_pos (by decide)]
      · rw [hs, if_neg (by decide), if_neg (by decide), if_pos (by decide)]
    have s8 : upM S 8 = { dPr with sender := p.sender, kind := p.kind, shown := p.shown, prio := p.prio } := by
      show stepM S 7 (upM S 7) = _
      unfold stepM
      rw [g7, if_neg (show ¬ (elemI 2 pidfSp contNm [⟨prioKey, shareText (thouVal p.prio)⟩]).name = basicNm by show ¬ contNm = basicNm; decide), if_neg (show ¬ (elemI 2 pidfSp contNm [⟨prioKey, shareText (thouVal p.prio)⟩]).name = awayNm by show ¬ contNm = awayNm; decide), if_neg (show ¬ (elemI 2 pidfSp contNm [⟨prioKey, shareText (thouVal p.prio)⟩]).name = busyNm by show ¬ contNm = busyNm; decide), if_neg (show ¬ (elemI 2 pidfSp contNm [⟨prioKey, shareText (thouVal p.prio)⟩]).name = noteNm by show ¬ contNm = noteNm; decide), if_pos (show (elemI 2 pidfSp contNm [⟨prioKey, shareText (thouVal p.prio)⟩]).name = contNm from rfl), vc, b1, s7]
    have s9 : upM S 9 = { dPr with sender := p.sender, kind := p.kind, shown := p.shown, prio := p.prio } := by
      show stepM S 8 (upM S 8) = _
      unfold stepM
      rw [g8, s8]
      simp only [show (textI 3 (xmppP ++ p.sender)).name = (⟨#[]⟩ : ByteArray) from rfl]
      rw [if_neg (show ¬ (⟨#[]⟩ : ByteArray) = basicNm by decide), if_neg (show ¬ (⟨#[]⟩ : ByteArray) = awayNm by decide), if_neg (show ¬ (⟨#[]⟩ : ByteArray) = busyNm by decide), if_neg (show ¬ (⟨#[]⟩ : ByteArray) = noteNm by decide), if_neg (show ¬ (⟨#[]⟩ : ByteArray) = contNm by decide)]
    have s10 : upM S 10 = { dPr with sender := p.sender, kind := p.kind, shown := p.shown, prio := p.prio, status := p.status } := by
      show stepM S 9 (upM S 9) = _
      unfold stepM
      rw [g9, if_neg (show ¬ (elemI 2 pidfSp noteNm []).name = basicNm by decide), if_neg (show ¬ (elemI 2 pidfSp noteNm []).name = awayNm by decide), if_neg (show ¬ (elemI 2 pidfSp noteNm []).name = busyNm by decide), if_pos (show (elemI 2 pidfSp noteNm []).name = noteNm from rfl), t9, s9]
    have s11 : upM S 11 = { dPr with sender := p.sender, kind := p.kind, shown := p.shown, prio := p.prio, status := p.status } := by
      show stepM S 10 (upM S 10) = _
      unfold stepM
      rw [g10, s10]
      simp only [show (textI 3 p.status).name = (⟨#[]⟩ : ByteArray) from rfl]
      rw [if_neg (show ¬ (⟨#[]⟩ : ByteArray) = basicNm by decide), if_neg (show ¬ (⟨#[]⟩ : ByteArray) = awayNm by decide), if_neg (show ¬ (⟨#[]⟩ : ByteArray) = busyNm by decide), if_neg (show ¬ (⟨#[]⟩ : ByteArray) = noteNm by decide), if_neg (show ¬ (⟨#[]⟩ : ByteArray) = contNm by decide)]
    rw [s11]
    obtain ⟨qk, qf, qt, qs, qu, qp, qm⟩ := p
    have e1 := h.gl
    have e2 := h.mo
    dsimp only at e1 e2
    subst e1
    subst e2
    rfl
  · have hst : guessP S = upP S 10 := by
      have n0 : isNote S 0 = false := decide_eq_false (by rw [g0]; show ¬ presNm = noteNm; decide)
      have n1 : isNote S 1 = false := decide_eq_false (by rw [g1]; show ¬ tupleNm = noteNm; decide)
      have n2 : isNote S 2 = false := decide_eq_false (by rw [g2]; show ¬ stNm = noteNm; decide)
      have n3 : isNote S 3 = false := decide_eq_false (by rw [g3]; show ¬ basicNm = noteNm; decide)
      have n4 : isNote S 4 = false := decide_eq_false (by rw [g4]; show ¬ (⟨#[]⟩ : ByteArray) = noteNm; decide)
      have n5 : isNote S 5 = false := decide_eq_false (by rw [g5]; show ¬ actNm = noteNm; decide)
      have n6 : isNote S 6 = false := decide_eq_false (by rw [g6]; show ¬ actW p.shown = noteNm; unfold actW; split <;> decide)
      have n7 : isNote S 7 = false := decide_eq_false (by rw [g7]; show ¬ contNm = noteNm; decide)
      have n8 : isNote S 8 = false := decide_eq_false (by rw [g8]; show ¬ (⟨#[]⟩ : ByteArray) = noteNm; decide)
      refine guessP_note (by omega) (fun j hj => ?_) (decide_eq_true (by rw [g9]; rfl))
      match j, hj with
      | 0, _ => exact n0
      | 1, _ => exact n1
      | 2, _ => exact n2
      | 3, _ => exact n3
      | 4, _ => exact n4
      | 5, _ => exact n5
      | 6, _ => exact n6
      | 7, _ => exact n7
      | 8, _ => exact n8
    rw [hst]
    have s0 : upP S 0 = { dPr with sender := p.sender } := by
      show startP S = _
      unfold startP
      rw [g0, v0, off_pres]
    have s1 : upP S 1 = { dPr with sender := p.sender } := by
      show stepP S 0 (upP S 0) = _
      unfold stepP
      rw [g0, s0]
      simp only [show (rootP8 p.sender).name = presNm from rfl]
      rw [if_neg (show ¬ presNm = basicNm by decide), if_neg (show ¬ presNm = actNm by decide), if_neg (show ¬ presNm = contNm by decide), if_neg (show ¬ presNm = noteNm by decide)]
    have s2 : upP S 2 = { dPr with sender := p.sender } := by
      show stepP S 1 (upP S 1) = _
      unfold stepP
      rw [g1, s1]
      simp only [show (elemI 1 pidfSp tupleNm [⟨idNm, tT⟩]).name = tupleNm from rfl]
      rw [if_neg (show ¬ tupleNm = basicNm by decide), if_neg (show ¬ tupleNm = actNm by decide), if_neg (show ¬ tupleNm = contNm by decide), if_neg (show ¬ tupleNm = noteNm by decide)]
    have s3 : upP S 3 = { dPr with sender := p.sender } := by
      show stepP S 2 (upP S 2) = _
      unfold stepP
      rw [g2, s2]
      simp only [show (elemI 2 pidfSp stNm []).name = stNm from rfl]
      rw [if_neg (show ¬ stNm = basicNm by decide), if_neg (show ¬ stNm = actNm by decide), if_neg (show ¬ stNm = contNm by decide), if_neg (show ¬ stNm = noteNm by decide)]
    have s4 : upP S 4 = { dPr with sender := p.sender, kind := p.kind } := by
      show stepP S 3 (upP S 3) = _
      unfold stepP
      rw [g3, if_pos (show (elemI 3 pidfSp basicNm []).name = basicNm from rfl), t3, s3]
      rcases h.kd with hk | hk
      · rw [hk, show hasIx basicWs (basicW 0) = 0 by decide +kernel]
      · rw [hk, show hasIx basicWs (basicW 1) = 1 by decide +kernel]
    have s5 : upP S 5 = { dPr with sender := p.sender, kind := p.kind } := by
      show stepP S 4 (upP S 4) = _
      unfold stepP
      rw [g4, s4]
      simp only [show (textI 4 (basicW p.kind)).name = (⟨#[]⟩ : ByteArray) from rfl]
      rw [if_neg (show ¬ (⟨#[]⟩ : ByteArray) = basicNm by decide), if_neg (show ¬ (⟨#[]⟩ : ByteArray) = actNm by decide), if_neg (show ¬ (⟨#[]⟩ : ByteArray) = contNm by decide), if_neg (show ¬ (⟨#[]⟩ : ByteArray) = noteNm by decide)]
    have s6 : upP S 6 = { dPr with sender := p.sender, kind := p.kind, shown := p.shown } := by
      show stepP S 5 (upP S 5) = _
      unfold stepP
      rw [g5, if_neg (show ¬ (elemI 2 rpidSp actNm []).name = basicNm by decide), if_pos (show (elemI 2 rpidSp actNm []).name = actNm from rfl), k5, s5]
    have s7 : upP S 7 = { dPr with sender := p.sender, kind := p.kind, shown := p.shown } := by
      show stepP S 6 (upP S 6) = _
      unfold stepP
      rw [g6, s6]
      simp only [show (elemI 3 rpidSp (actW p.shown) []).name = actW p.shown from rfl]
      have aw : actW p.shown = awayNm ∨ actW p.shown = busyNm := by unfold actW; split; exact .inr rfl; exact .inl rfl
      rcases aw with aw | aw <;> rw [aw, if_neg (by decide), if_neg (by decide), if_neg (by decide), if_neg (by decide)]
    have s8 : upP S 8 = { dPr with sender := p.sender, kind := p.kind, shown := p.shown, prio := p.prio } := by
      show stepP S 7 (upP S 7) = _
      unfold stepP
      rw [g7, if_neg (show ¬ (elemI 2 pidfSp contNm [⟨prioKey, shareText (thouVal p.prio)⟩]).name = basicNm by show ¬ contNm = basicNm; decide), if_neg (show ¬ (elemI 2 pidfSp contNm [⟨prioKey, shareText (thouVal p.prio)⟩]).name = actNm by show ¬ contNm = actNm; decide), if_pos (show (elemI 2 pidfSp contNm [⟨prioKey, shareText (thouVal p.prio)⟩]).name = contNm from rfl), vc, b2, s7]
    have s9 : upP S 9 = { dPr with sender := p.sender, kind := p.kind, shown := p.shown, prio := p.prio } := by
      show stepP S 8 (upP S 8) = _
      unfold stepP
      rw [g8, s8]
      simp only [show (textI 3 (xmppP ++ p.sender)).name = (⟨#[]⟩ : ByteArray) from rfl]
      rw [if_neg (show ¬ (⟨#[]⟩ : ByteArray) = basicNm by decide), if_neg (show ¬ (⟨#[]⟩ : ByteArray) = actNm by decide), if_neg (show ¬ (⟨#[]⟩ : ByteArray) = contNm by decide), if_neg (show ¬ (⟨#[]⟩ : ByteArray) = noteNm by decide)]
    have s10 : upP S 10 = { dPr with sender := p.sender, kind := p.kind, shown := p.shown, prio := p.prio, status := p.status } := by
      show stepP S 9 (upP S 9) = _
      unfold stepP
      rw [g9, if_neg (show ¬ (elemI 2 pidfSp noteNm []).name = basicNm by decide), if_neg (show ¬ (elemI 2 pidfSp noteNm []).name = actNm by decide), if_neg (show ¬ (elemI 2 pidfSp noteNm []).name = contNm by decide), if_pos (show (elemI 2 pidfSp noteNm []).name = noteNm from rfl), t9, s9]
    rw [s10]
    obtain ⟨qk, qf, qt, qs, qu, qp, qm⟩ := p
    have e1 := h.gl
    have e2 := h.mo
    dsimp only at e1 e2
    subst e1
    subst e2
    rfl
theorem guess_right {p : Pr} (h : OwnPr p) (hR : Rises (pidfL p)) : guessM (pidfL p) = p ∧ guessP (pidfL p) = p := by
  by_cases ha : p.shown = 0
  · by_cases hc : p.prio = 0
    · cases hn : p.status.toList.isEmpty
      · exact guess_001 h hR ha hc hn
      · exact guess_000 h hR ha hc hn
    · cases hn : p.status.toList.isEmpty
      · exact guess_011 h hR ha hc hn
      · exact guess_010 h hR ha hc hn
  · by_cases hc : p.prio = 0
    · cases hn : p.status.toList.isEmpty
      · exact guess_101 h hR ha hc hn
      · exact guess_100 h hR ha hc hn
    · cases hn : p.status.toList.isEmpty
      · exact guess_111 h hR ha hc hn
      · exact guess_110 h hR ha hc hn
def ptrN (k : Nat) : Value := .pointer (some ⟨k, 0, none⟩)
def ptrO (nb : Nat → Nat) (o : Option Nat) : Value := .pointer (o.map fun j => ⟨nb j, 0, none⟩)
def partV (bi oi : Nat) (x : It) (j : Nat) : Value := .iface (if x.name.toList.isEmpty then 128 else 129) (.agg #[.pointer (some ⟨bi, oi + j * 5, none⟩)])
def rowN (nb : Nat → Nat) (ks : List Nat) : List Value := ks.map fun k => ptrN (nb k)
structure Nodes (w : World) (B bi oi : Nat) (l : List It) (m : Nat) (nb : Nat → Nat) (KA : Nat → Option Addr) (KN KC : Nat → Nat) (K : Nat → List Nat) : Prop where
  lt : ∀ j, j < m → B ≤ nb j ∧ nb j < w.heap.size
  c0 : ∀ j, j < m → w.cell? ⟨nb j, 0, none⟩ = some (partV bi oi (l.getD j dIt) j)
  c1 : ∀ j, j < m → w.cell? ⟨nb j, 1, none⟩ = some (.int .i64 (j : Int))
  c2 : ∀ j, j < m → w.cell? ⟨nb j, 2, none⟩ = some (.slice (KA j) (KN j) (KC j))
  f2 : ∀ j, j < m → w.frozen? ⟨nb j, 2, none⟩ = false
  row : ∀ j, j < m → w.ownsRow B 140 1 (.slice (KA j) (KN j) (KC j)) (KN j) (rowN nb (K j))
  kid : ∀ j, j < m → ∀ k ∈ K j, k < m
  one : ∀ i j, i < m → j < m → i ≠ j → nb i ≠ nb j
  off : ∀ i j, i < m → j < m → (Value.slice (KA i) (KN i) (KC i)).ownBlock ≠ some (nb j)
  each : ∀ i j, i < m → j < m → i ≠ j → ∀ g, (Value.slice (KA i) (KN i) (KC i)).ownBlock = some g → (Value.slice (KA j) (KN j) (KC j)).ownBlock ≠ some g
theorem rowN_len (nb : Nat → Nat) (ks : List Nat) : (rowN nb ks).length = ks.length := by simp [rowN]
theorem rowN_congr {nb nb' : Nat → Nat} {ks : List Nat} (h : ∀ k ∈ ks, nb k = nb' k) : rowN nb ks = rowN nb' ks := by
  unfold rowN
  exact List.map_congr_left fun k hk => by rw [h k hk]
section
variable {w w' : World} {B bi oi : Nat} {l : List It} {m : Nat} {nb : Nat → Nat} {KA : Nat → Option Addr} {KN KC : Nat → Nat} {K : Nat → List Nat}
theorem Nodes.below (h : Nodes w B bi oi l m nb KA KN KC K) (hb : Below w.heap.size w w') : Nodes w' B bi oi l m nb KA KN KC K :=
  ⟨fun j hj => ⟨(h.lt j hj).1, Nat.lt_of_lt_of_le (h.lt j hj).2 hb.size⟩, fun j hj => (hb.cell (by exact (h.lt j hj).2)).trans (h.c0 j hj), fun j hj => (hb.cell (by exact (h.lt j hj).2)).trans (h.c1 j hj), fun j hj => (hb.cell (by exact (h.lt j hj).2)).trans (h.c2 j hj), fun j hj => (hb.frozen (by exact (h.lt j hj).2)).trans (h.f2 j hj), fun j hj => owns_below (h.row j hj) hb, h.kid, h.one, h.off, h.each⟩
theorem owns_onlyN {P : Nat → Prop} {base : Nat} {e : TypeId} {size : Nat} {v : Value} {n : Nat} {xs : List Value} (h : w.ownsRow base e size v n xs) (ho : Only P w w') (hn : ∀ g, v.ownBlock = some g → ¬ P g) : w'.ownsRow base e size v n xs := by
  refine ⟨h.1, ?_⟩
  rcases h.2 with h2 | ⟨g, cap, cur, hv, hg, hh, r⟩
  · exact .inl h2
  · have hlt : g < w.heap.size := (h.lt g (by rw [hv]; rfl)).2
    exact .inr ⟨g, cap, cur, hv, hg, by rw [ho.block g hlt (hn g (by rw [hv]; rfl))]; exact hh, r⟩
theorem Nodes.only {P : Nat → Prop} (h : Nodes w B bi oi l m nb KA KN KC K) (ho : Only P w w') (hP : ∀ i, B ≤ i → ¬ P i) : Nodes w' B bi oi l m nb KA KN KC K :=
  ⟨fun j hj => ⟨(h.lt j hj).1, Nat.lt_of_lt_of_le (h.lt j hj).2 ho.size⟩, fun j hj => (ho.cell (p := ⟨nb j, 0, none⟩) (h.lt j hj).2 (hP _ (h.lt j hj).1)).trans (h.c0 j hj), fun j hj => (ho.cell (p := ⟨nb j, 1, none⟩) (h.lt j hj).2 (hP _ (h.lt j hj).1)).trans (h.c1 j hj), fun j hj => (ho.cell (p := ⟨nb j, 2, none⟩) (h.lt j hj).2 (hP _ (h.lt j hj).1)).trans (h.c2 j hj), fun j hj => (ho.frozen (p := ⟨nb j, 2, none⟩) (h.lt j hj).2 (hP _ (h.lt j hj).1)).trans (h.f2 j hj), fun j hj => owns_onlyN (h.row j hj) ho fun g hg => hP g ((h.row j hj).lt g hg).1, h.kid, h.one, h.off, h.each⟩
theorem Nodes.congr {K' : Nat → List Nat} (h : Nodes w B bi oi l m nb KA KN KC K) (hk : ∀ j, j < m → K j = K' j) : Nodes w B bi oi l m nb KA KN KC K' :=
  ⟨h.lt, h.c0, h.c1, h.c2, h.f2, fun j hj => by rw [← hk j hj]; exact h.row j hj, fun j hj => by rw [← hk j hj]; exact h.kid j hj, h.one, h.off, h.each⟩
theorem putA_at {α : Type} (n : Nat) (a : α) (A : Nat → α) : putA n a A n = a := by unfold putA; rw [if_pos rfl]
theorem putA_ne {α : Type} {n i : Nat} (a : α) (A : Nat → α) (h : i ≠ n) : putA n a A i = A i := by unfold putA; rw [if_neg h]
theorem Nodes.add (h : Nodes w B bi oi l m nb KA KN KC K) (hB : B ≤ w.heap.size) (t : TypeId) :
    Nodes (w.alloc (.cells #[partV bi oi (l.getD m dIt) m, .int .i64 (m : Int), .slice none 0 0] t)) B bi oi l (m + 1) (putA m w.heap.size nb) (putA m none KA) (putA m 0 KN) (putA m 0 KC) (putA m [] K) := by
  have h1 := h.below (below1 w (.cells #[partV bi oi (l.getD m dIt) m, .int .i64 (m : Int), .slice none 0 0] t))
  have hc : ∀ j, j < m + 1 → j = m ∨ (j ≠ m ∧ j < m) := fun j hj => by omega
  have hlt : ∀ j, j < m → nb j < w.heap.size := fun j hj => (h.lt j hj).2
  refine ⟨fun j hj => ?_, fun j hj => ?_, fun j hj => ?_, fun j hj => ?_, fun j hj => ?_, fun j hj => ?_, fun j hj => ?_, fun i j hi hj hij => ?_, fun i j hi hj => ?_, fun i j hi hj hij => ?_⟩
  · rcases hc j hj with rfl | ⟨e, hj⟩
    · rw [putA_at]; simp; omega
    · rw [putA_ne _ _ e]; exact h1.lt j hj
  · rcases hc j hj with rfl | ⟨e, hj⟩
    · rw [putA_at]; simp
    · rw [putA_ne _ _ e]; exact h1.c0 j hj
  · rcases hc j hj with rfl | ⟨e, hj⟩
    · rw [putA_at]; simp
    · rw [putA_ne _ _ e]; exact h1.c1 j hj
  · rcases hc j hj with rfl | ⟨e, hj⟩
    · rw [putA_at, putA_at, putA_at, putA_at]; simp
    · rw [putA_ne _ _ e, putA_ne _ _ e, putA_ne _ _ e, putA_ne _ _ e]; exact h1.c2 j hj
  · rcases hc j hj with rfl | ⟨e, hj⟩
    · rw [putA_at]; go_simp
    · rw [putA_ne _ _ e]; exact h1.f2 j hj
  · rcases hc j hj with rfl | ⟨e, hj⟩
    · rw [putA_at, putA_at, putA_at, putA_at]
      exact World.ownsRow_nil _ _ _ _
    · rw [putA_ne _ _ e, putA_ne _ _ e, putA_ne _ _ e, putA_ne _ _ e, rowN_congr (nb' := nb) fun k hk => putA_ne _ _ (by have := h.kid j hj k hk; omega)]
      exact h1.row j hj
  · rcases hc j hj with rfl | ⟨e, hj⟩
    · rw [putA_at]; intro k hk; cases hk
    · rw [putA_ne _ _ e]
      intro k hk
      have := h.kid j hj k hk
      omega
  · rcases hc i hi with rfl | ⟨e, hi⟩ <;> rcases hc j hj with rfl | ⟨e2, hj⟩
    · exact absurd rfl hij
    · rw [putA_at, putA_ne _ _ e2]
      have := hlt j hj
      omega
    · rw [putA_at, putA_ne _ _ e]
      have := hlt i hi
      omega
    · rw [putA_ne _ _ e, putA_ne _ _ e2]
      exact h.one i j hi hj hij
  · rcases hc i hi with rfl | ⟨e, hi⟩
    · rw [putA_at, putA_at, putA_at]
      intro q
      cases q
    · rw [putA_ne _ _ e, putA_ne _ _ e, putA_ne _ _ e]
      rcases hc j hj with rfl | ⟨e2, hj⟩
      · rw [putA_at]
        intro q
        have := ((h.row i hi).lt _ q).2
        omega
      · rw [putA_ne _ _ e2]
        exact h.off i j hi hj
  · rcases hc i hi with rfl | ⟨e, hi⟩
    · rw [putA_at, putA_at, putA_at]
      intro g q
      cases q
    · rw [putA_ne _ _ e, putA_ne _ _ e, putA_ne _ _ e]
      rcases hc j hj with rfl | ⟨e2, hj⟩
      · rw [putA_at, putA_at, putA_at]
        intro g _ q
        cases q
      · rw [putA_ne _ _ e2, putA_ne _ _ e2, putA_ne _ _ e2]
        exact h.each i j hi hj hij
theorem Nodes.put {w0 w3 : World} {p k : Nat} {a' : Option Addr} {n' c' : Nat} (h : Nodes w B bi oi l m nb KA KN KC K) (hp : p < m) (hk : k < m) (hw : Below w.heap.size w w0)
    (hown : w3.ownsRow B 140 1 (.slice a' n' c') n' (rowN nb (K p) ++ [ptrN (nb k)])) (hgr : w0.grownBy w3 (Value.slice (KA p) (KN p) (KC p)).ownBlock)
    (hat : (Value.slice a' n' c').ownBlock = (Value.slice (KA p) (KN p) (KC p)).ownBlock ∨ ∃ g, (Value.slice a' n' c').ownBlock = some g ∧ w0.heap.size ≤ g) :
    Nodes (w3.setCell ⟨nb p, 2, none⟩ (.slice a' n' c')) B bi oi l m nb (putA p a' KA) (putA p n' KN) (putA p c' KC) (putA p (K p ++ [k]) K) := by
  have h0 := h.below hw
  have ho := Only.grown hgr
  have hnr : ∀ j, j < m → ¬ (some (nb j) = (Value.slice (KA p) (KN p) (KC p)).ownBlock) := fun j hj e => h.off p j hp hj e.symm
  have hsz : w3.heap.size = (w3.setCell ⟨nb p, 2, none⟩ (.slice a' n' c')).heap.size := by simp
  have hl3 : ∀ j, j < m → nb j < w3.heap.size := fun j hj => Nat.lt_of_lt_of_le (h0.lt j hj).2 ho.size
  have k0 : ∀ j, j < m → ∀ i, w3.cell? ⟨nb j, i, none⟩ = w0.cell? ⟨nb j, i, none⟩ := fun j hj i => ho.cell (p := ⟨nb j, i, none⟩) (h0.lt j hj).2 (hnr j hj)
  have kf : ∀ j, j < m → ∀ i, w3.frozen? ⟨nb j, i, none⟩ = w0.frozen? ⟨nb j, i, none⟩ := fun j hj i => ho.frozen (p := ⟨nb j, i, none⟩) (h0.lt j hj).2 (hnr j hj)
  have hnew : ∀ j, j < m → (Value.slice a' n' c').ownBlock ≠ some (nb j) := fun j hj e => by
    rcases hat with q | ⟨g, q, hg⟩
    · exact h.off p j hp hj (q.symm.trans e)
    · rw [q] at e
      simp only [Option.some.injEq] at e
      have := (h0.lt j hj).2
      omega
  have hc : ∀ j, j = p ∨ j ≠ p := fun j => by omega
  refine ⟨fun j hj => ⟨(h.lt j hj).1, by rw [← hsz]; exact hl3 j hj⟩, fun j hj => ?_, fun j hj => ?_, fun j hj => ?_, fun j hj => ?_, fun j hj => ?_, fun j hj => ?_, h.one, fun i j hi hj => ?_, fun i j hi hj hij => ?_⟩
  · rw [World.cell?_setCell_other _ _ _ _ (fun e => absurd (congrArg Addr.off e) (show (2 : Nat) ≠ 0 by decide)), k0 j hj]
    exact h0.c0 j hj
  · rw [World.cell?_setCell_other _ _ _ _ (fun e => absurd (congrArg Addr.off e) (show (2 : Nat) ≠ 1 by decide)), k0 j hj]
    exact h0.c1 j hj
  · rcases hc j with rfl | e
    · rw [putA_at, putA_at, putA_at]
      exact World.cell?_setCell_same _ _ _ ((k0 j hj 2).trans (h0.c2 j hj))
    · rw [putA_ne _ _ e, putA_ne _ _ e, putA_ne _ _ e, World.cell?_setCell_other _ _ _ _ (fun q => h.one p j hp hj (fun r => e r.symm) (congrArg Addr.block q)), k0 j hj]
      exact h0.c2 j hj
  · rw [World.frozen?_setCell, kf j hj]
    exact h0.f2 j hj
  · rcases hc j with rfl | e
    · rw [putA_at, putA_at, putA_at, putA_at]
      have er : rowN nb (K j ++ [k]) = rowN nb (K j) ++ [ptrN (nb k)] := by simp [rowN]
      rw [er]
      exact owns_onlyN hown (Only.set (P := fun i => i = nb j) w3 ⟨nb j, 2, none⟩ _ rfl) fun g hg q => hnew j hj (by rw [hg, q])
    · rw [putA_ne _ _ e, putA_ne _ _ e, putA_ne _ _ e, putA_ne _ _ e]
      have r3 := owns_onlyN (h0.row j hj) ho fun g hg q => h.each p j hp hj (fun r => e r.symm) g q.symm hg
      exact owns_onlyN r3 (Only.set (P := fun i => i = nb p) w3 ⟨nb p, 2, none⟩ _ rfl) fun g hg q => h.off j p hj hp (by rw [hg, q])
  · rcases hc j with rfl | e
    · rw [putA_at]
      intro q hq
      rw [List.mem_append, List.mem_singleton] at hq
      rcases hq with hq | rfl
      · exact h.kid j hj q hq
      · exact hk
    · rw [putA_ne _ _ e]
      exact h.kid j hj
  · rcases hc i with rfl | e
    · rw [putA_at, putA_at, putA_at]
      exact hnew j hj
    · rw [putA_ne _ _ e, putA_ne _ _ e, putA_ne _ _ e]
      exact h.off i j hi hj
  · have hne : ∀ j, j < m → j ≠ p → ∀ g, (Value.slice a' n' c').ownBlock = some g → (Value.slice (KA j) (KN j) (KC j)).ownBlock ≠ some g := fun j hj e g hg q => by
      rcases hat with r | ⟨g', r, hg'⟩
      · exact h.each p j hp hj (fun r => e r.symm) g (r.symm.trans hg) q
      · rw [r] at hg
        simp only [Option.some.injEq] at hg
        have := ((h0.row j hj).lt g q).2
        omega
    rcases hc i with rfl | e
    · rcases hc j with rfl | e2
      · exact absurd rfl hij
      · rw [putA_at, putA_at, putA_at, putA_ne _ _ e2, putA_ne _ _ e2, putA_ne _ _ e2]
        exact hne j hj e2
    · rcases hc j with rfl | e2
      · rw [putA_ne _ _ e, putA_ne _ _ e, putA_ne _ _ e, putA_at, putA_at, putA_at]
        intro g hg q
        exact hne i hi e g q hg
      · rw [putA_ne _ _ e, putA_ne _ _ e, putA_ne _ _ e, putA_ne _ _ e2, putA_ne _ _ e2, putA_ne _ _ e2]
        exact h.each i j hi hj hij
end
end Go.Proofs.YtcaknhoaoodbfaaGreatDoor
