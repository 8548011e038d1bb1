/- The program's toldIn. -/
import Derived.Test.YtcaknhoaoodbfaaGreatDoorGP37
import Derived.Test.YtcaknhoaoodbfaaGreatDoorGP28
import Derived.Test.YtcaknhoaoodbfaaGreatDoorGP30
import Derived.WalkMore
import Derived.Test.YtcaknhoaoodbfaaGreatDoorGP18
namespace Go.Proofs.YtcaknhoaoodbfaaGreatDoor
open Go.ChangeShapes Go.WideShapes Go.ChangeAt Go.RowKit
set_option linter.unusedVariables false
set_option linter.unusedSimpArgs false
theorem in_little {l : List It} (hc : treeCode l = 0) (i : Nat) : (l.getD i dIt).text.size ≤ 1000 := by
  rcases Nat.lt_or_ge i l.length with h | h
  · have := text_le hc h
    omega
  · rw [List.getD_eq_getElem?_getD, List.getElem?_eq_none h]
    decide
theorem field_txt (c : Int) (t : ByteArray) (W : World) : (Instr.field 42 (.agg #[.int .i64 c, .string t]) 1).run Tryz.prog W = .ok (.string t) W := by kernel_rfl
theorem trimPres_any (s : ByteArray) (w : World) : Calls Tryz.prog 147 #[.string s, .string presP] w fun e w' => e = .returned (.string (off5 s)) ∧ w' = w := Tryz.strings_TrimPrefix s presP w
theorem basic_row (w : World) : Calls Tryz.prog 144 #[] w fun e w' =>
    e = .returned (.slice (some ⟨w.heap.size, 0, none⟩) 2 2) ∧ Below w.heap.size w w' ∧ RowS w' (.slice (some ⟨w.heap.size, 0, none⟩) 2 2) basicWs := by
  go_enter Tryz.func144, Tryz.ntmps144
  go_wp2
  go_ret
  refine ⟨rfl, below1 _ _, .inr ⟨w.heap.size, 0, 2, rfl, by decide, by decide, by simp, fun i hi => ?_⟩⟩
  have h2 : i < 2 := hi
  rw [Nat.zero_add]
  match i, h2 with
  | 0, _ => simp [basicWs, openT]
  | 1, _ => simp [basicWs, closedT]
set_option maxRecDepth 100000 in
set_option maxHeartbeats 3200000 in
theorem toldIn_any (b o n c : Nat) (l : List It) (w : World) (hT : Tabs w) (hPw : Pows w) (hc : treeCode l = 0) (h : ItsAt w (some ⟨b, o, none⟩) n c l) :
    Calls Tryz.prog 86 #[.slice (some ⟨b, o, none⟩) n c] w (GuessRes w (guessP l)) := by
  have hR := rises_of hc
  have hlen := h.len
  have hn1 : 0 < n := by have := hR.some; omega
  have hn40 : n ≤ 40 := by have := hR.few; omega
  obtain ⟨b1, o1, e1, hat⟩ := h.row.resolve_left (by omega)
  cases e1
  have hbw : b < w.heap.size := (hat 0 hn1).lt
  have HAT := Lib.hid (fun W (hb : Below w.heap.size w W) i (hi : i < n) => (hat i hi).below hb)
  have KT := Lib.hid (fun W (hb : Below w.heap.size w W) p (hp : p < n) => implTextIn_any b o n c p l W (tabs_kept hT hb) (h.below hb) hc hp (in_little hc))
  have HIT := Lib.hid (fun p (hp : p < n) => (in_text hc (a := p) (by omega)).2)
  have KV := Lib.hid (fun W (hb : Below w.heap.size w W) i (hi : i < n) name => implValueOf_any b o n c i l name W (tabs_kept hT hb) (h.below hb) hc hi)
  have KS := Lib.hid (fun W (hb : Below w.heap.size w W) i (hi : i < n) => showIn_any b o n c i l W (tabs_kept hT hb) (h.below hb) hc hi)
  have HPW := Lib.hid (fun W (hb : Below w.heap.size w W) => hPw.below hb)
  unfold TxtRes at KT KV
  obtain ⟨wR, hwR⟩ : ∃ wR, w.alloc (.cells #[.int .i64 0, .string ⟨#[]⟩, .string ⟨#[]⟩, .int .i64 0, .string ⟨#[]⟩, .int .i64 0, .slice none 0 0] 26) = wR := ⟨_, rfl⟩
  have HRB : Hid (Below w.heap.size w wR) := Lib.hid (by rw [← hwR]; exact below1 _ _)
  have hwl : w.heap.size < wR.heap.size := by rw [← hwR]; simp
  have HBX : Hid (Box7 wR w.heap.size) := Lib.hid (by
    rw [← hwR]
    refine ⟨fun i hi => ?_, fun i => by simp⟩
    match i, hi with
    | 0, _ => exact ⟨.int .i64 0, by simp⟩
    | 1, _ => exact ⟨.string ⟨#[]⟩, by simp⟩
    | 2, _ => exact ⟨.string ⟨#[]⟩, by simp⟩
    | 3, _ => exact ⟨.int .i64 0, by simp⟩
    | 4, _ => exact ⟨.string ⟨#[]⟩, by simp⟩
    | 5, _ => exact ⟨.int .i64 0, by simp⟩
    | 6, _ => exact ⟨.slice none 0 0, by simp⟩)
  have HUP : Hid (∀ k, upP l (k + 1) = stepP l k (upP l k)) := Lib.hid fun k => rfl
  have HGN : Hid (∀ k, k < n → (∀ j, j < k → isNote l j = false) → isNote l k = true → guessP l = upP l (k + 1)) := Lib.hid fun k hk h0 h1 => guessP_note (by omega) h0 h1
  have HGA : Hid ((∀ j, j < n → isNote l j = false) → guessP l = upP l n) := Lib.hid fun h0 => by rw [← hlen]; exact guessP_none (by rw [hlen]; exact h0)
  generalize guessP l = gg at HGN HGA ⊢
  have HS0 : Hid (upP l 0 = { dPr with sender := off5 (valT (valueL (l.getD 0 dIt).attrs entityNm)) }) := Lib.hid rfl
  unfold GuessRes
  have KV0 := Lib.hid (KV.out _ HRB.out 0 hn1 entityNm)
  clear h hc hR hat hlen hT hPw
  unfold entityNm at KV0 HS0
  generalize valT (valueL (l.getD 0 dIt).attrs ⟨#[101, 110, 116, 105, 116, 121]⟩) = ent at KV0 HS0
  generalize valC (valueL (l.getD 0 dIt).attrs ⟨#[101, 110, 116, 105, 116, 121]⟩) = ec at KV0
  have KP := Lib.hid (fun W => trimPres_any ent W)
  unfold presP at KP
  have ft := fun c t W => field_txt c t W
  go_enter Tryz.func86, Tryz.ntmps86
  go_wp2
  go_step3
  go_wp2_with fail
  refine KV0.out.mono ?_
  rintro e w1 ⟨rfl, hb1⟩
  have HB1 := Lib.hid hb1
  clear hb1 KV0
  go_wp2_with fail
  refine (KP.out _).mono ?_
  rintro e w2 ⟨rfl, rfl⟩
  have HP1 : Hid (PrMut wR (w2.alloc (.cells #[.int .i64 0, .string (off5 ent), .string ⟨#[]⟩, .int .i64 0, .string ⟨#[]⟩, .int .i64 0, .slice none 0 0] 26)) w2.heap.size (upP l 0) none 0 0) := Lib.hid (by
    rw [HS0.out]
    exact PrMut.new wR w2 HB1.out 26 { dPr with sender := off5 ent } none 0 0)
  have hzw : wR.heap.size ≤ w2.heap.size := HB1.out.size
  clear KP HS0
  go_wp2
  go_step3
  go_wp2
  obtain ⟨pb, hpb⟩ : ∃ pb, w2.heap.size = pb := ⟨_, rfl⟩
  generalize w2.alloc (.cells #[.int .i64 0, .string (off5 ent), .string ⟨#[]⟩, .int .i64 0, .string ⟨#[]⟩, .int .i64 0, .slice none 0 0] 26) = w3 at HP1 ⊢
  rw [hpb] at HP1 hzw ⊢
  have hwl2 : w.heap.size < pb := by omega
  clear hpb
  go_loopw [14] (fun i wr => ∃ k : Nat, k ≤ n ∧ i = .int .i64 (k : Int) ∧ (∀ j, j < k → isNote l j = false) ∧ PrMut wR wr pb (upP l k) none 0 0) (fun i _ => n - (intOf i).toNat)
  case atStart => exact ⟨0, Nat.zero_le _, rfl, fun j hj => by omega, HP1.out⟩
  case round =>
    obtain ⟨k, hk, rfl, hno, hq⟩ := hrel
    have HQ := Lib.hid hq
    have HNO := Lib.hid hno
    clear hq hno HP1
    by_cases hlt : k < n
    · have hbr : Below w.heap.size w wr := HRB.out.trans (HQ.out.below.mono HRB.out.size)
      have HBR := Lib.hid hbr
      have KX := Lib.hid (fun W (hW : Below wr.heap.size wr W) => KT.out W (hbr.trans (hW.mono hbr.size)) k hlt)
      rw [HIT.out k hlt] at KX
      have KW := Lib.hid (fun W (hW : Below wr.heap.size wr W) => KS.out W (hbr.trans (hW.mono hbr.size)) k hlt)
      have HU0 := Lib.hid (HUP.out k)
      unfold stepP at HU0
      have q0 : (k : Int) < (n : Int) := by omega
      have hitk := HAT.out wr hbr k hlt
      have c0 := hitk.c0
      have c1 := hitk.c1
      have c2 := hitk.c2
      have c3 := hitk.c3
      obtain ⟨a4, n4, q4, c4, _⟩ := hitk.c4
      have HKV := Lib.hid (fun W (hW : Below wr.heap.size wr W) => KV.out W (hbr.trans (hW.mono hbr.size)) k hlt prioKey)
      have HNT : Hid (isNote l k = false → ∀ j, j < k + 1 → isNote l j = false) := Lib.hid fun h j hj => by
        rcases Nat.lt_or_ge j k with h1 | h1
        · exact HNO.out j h1
        · obtain rfl : j = k := by omega
          exact h
      have hbwr : b < wr.heap.size := World.block_lt_of_cell? _ _ c3
      clear hbr hitk
      obtain ⟨q1, hq1⟩ : ∃ q1, upP l (k + 1) = q1 := ⟨_, rfl⟩
      rw [hq1] at HU0
      have HQ1 := Lib.hid hq1
      clear hq1
      generalize upP l k = q at HQ HU0
      generalize txtT (textL l k) = tt at KX HU0
      generalize inC l (kidsUp l l.length k) = ic at KX
      obtain ⟨y, hy⟩ : ∃ y, l.getD k dIt = y := ⟨_, rfl⟩
      rw [hy] at HU0 c0 c1 c2 c3 HKV
      obtain ⟨yd, yt, ys, yn, ya⟩ := y
      dsimp only at HU0 c0 c1 c2 c3 HKV
      have HNN : Hid ((l.getD k dIt).name = yn) := Lib.hid (by rw [hy])
      clear hy
      generalize valT (valueL ya prioKey) = pv at HU0 HKV
      generalize valC (valueL ya prioKey) = pc at HKV
      have HBN := Lib.hid (below1 wr (.cells #[.int .i64 yd, .string yt, .string ys, .string yn, .slice a4 n4 q4] 67))
      have HQ2 := Lib.hid (HQ.out.keep HBN.out)
      clear HQ
      unfold isNote at HNT
      by_cases n_basic : yn = basicNm
      case pos =>
        have g_basic : (yn.toList == [98, 97, 115, 105, 99]) = true := nm_yes (by rw [ByteArray.toList_eq]; rfl) n_basic
        have HU : Hid (q1 = { q with kind := hasIx basicWs tt }) := Lib.hid (by rw [HU0.out, if_pos n_basic])
        have HNB : Hid (yn ≠ noteNm) := Lib.hid (by rw [n_basic]; decide)
        clear n_basic HKV
        go_wp2_with fail
        refine (basic_row _).mono ?_
        rintro e w4 ⟨rfl, hb4, hr4⟩
        rw [World.size_alloc] at hr4
        have HR4 := Lib.hid hr4
        have HB4 := Lib.hid (below_then HBN.out hb4)
        have HQ4 := Lib.hid (HQ2.out.keep hb4)
        clear hb4 hr4 HQ2
        go_wp2_with fail
        refine (KX.out _ HB4.out).mono ?_
        rintro e w5 ⟨rfl, hb5⟩
        have HR5 := Lib.hid (HR4.out.below hb5)
        have HQ5 := Lib.hid (HQ4.out.keep hb5)
        clear hb5 HR4 HQ4 HB4
        go_wp2_with fail
        refine (implIndex_any _ basicWs tt _ HR5.out).mono ?_
        rintro e w6 ⟨rfl, nd, rfl⟩
        have HQ2 := Lib.hid (HQ5.out.keep (below_drewN (Below.refl _ _) nd))
        clear HQ5 HR5
        generalize hasIx basicWs tt = hx at HU ⊢
        have z := HQ2.out.is.c0
        have y := HQ2.out.fz 0
        go_wp2
        go_roundw
        case rel => exact ⟨k + 1, by omega, by go_num, HNT.out (by rw [HNN.out]; exact decide_eq_false HNB.out), by rw [HQ1.out, HU.out]; exact HQ2.out.setKind hx⟩
        case measure => simp [intOf]; omega
      have g_basic : (yn.toList == [98, 97, 115, 105, 99]) = false := nm_no (by rw [ByteArray.toList_eq]; rfl) n_basic
      by_cases n_act : yn = actNm
      case pos =>
        have g_act : (yn.toList == [97, 99, 116, 105, 118, 105, 116, 105, 101, 115]) = true := nm_yes (by rw [ByteArray.toList_eq]; rfl) n_act
        have HU : Hid (q1 = { q with shown := showIx l k }) := Lib.hid (by rw [HU0.out, if_neg n_basic, if_pos n_act])
        have HNB : Hid (yn ≠ noteNm) := Lib.hid (by rw [n_act]; decide)
        clear n_basic n_act HKV
        go_wp2_with fail
        refine (KW.out _ HBN.out).mono ?_
        rintro e w6 ⟨rfl, hb6⟩
        have HQ6 := Lib.hid (HQ2.out.keep hb6)
        clear hb6 HQ2
        have HQ2 := HQ6
        clear HQ6
        generalize showIx l k = sx at HU ⊢
        have z := HQ2.out.is.c3
        have y := HQ2.out.fz 3
        go_wp2
        go_roundw
        case rel => exact ⟨k + 1, by omega, by go_num, HNT.out (by rw [HNN.out]; exact decide_eq_false HNB.out), by rw [HQ1.out, HU.out]; exact HQ2.out.setShown sx⟩
        case measure => simp [intOf]; omega
      have g_act : (yn.toList == [97, 99, 116, 105, 118, 105, 116, 105, 101, 115]) = false := nm_no (by rw [ByteArray.toList_eq]; rfl) n_act
      by_cases n_cont : yn = contNm
      case pos =>
        have g_cont : (yn.toList == [99, 111, 110, 116, 97, 99, 116]) = true := nm_yes (by rw [ByteArray.toList_eq]; rfl) n_cont
        have HU : Hid (q1 = { q with prio := prioWith pv }) := Lib.hid (by rw [HU0.out, if_neg n_basic, if_neg n_act, if_pos n_cont])
        have HNB : Hid (yn ≠ noteNm) := Lib.hid (by rw [n_cont]; decide)
        clear n_basic n_act n_cont
        unfold prioKey at HKV
        go_wp2_with fail
        refine (HKV.out _ HBN.out).mono ?_
        rintro e w4 ⟨rfl, hb4⟩
        have HQ4 := Lib.hid (HQ2.out.keep hb4)
        have HB4 := Lib.hid (below_then HBN.out hb4)
        clear hb4 HQ2 HKV
        go_wp2_with fail
        refine (prioWith_any pv _ (HPW.out _ (below_then HBR.out HB4.out))).mono ?_
        rintro e w5 ⟨rfl, hb5⟩
        have HQ2 := Lib.hid (HQ4.out.keep hb5)
        clear hb5 HQ4 HB4
        generalize prioWith pv = px at HU ⊢
        have z := HQ2.out.is.c5
        have y := HQ2.out.fz 5
        go_wp2
        go_roundw
        case rel => exact ⟨k + 1, by omega, by go_num, HNT.out (by rw [HNN.out]; exact decide_eq_false HNB.out), by rw [HQ1.out, HU.out]; exact HQ2.out.setPrio px⟩
        case measure => simp [intOf]; omega
      have g_cont : (yn.toList == [99, 111, 110, 116, 97, 99, 116]) = false := nm_no (by rw [ByteArray.toList_eq]; rfl) n_cont
      by_cases n_note : yn = noteNm
      case pos =>
        have g_note : (yn.toList == [110, 111, 116, 101]) = true := nm_yes (by rw [ByteArray.toList_eq]; rfl) n_note
        have HU : Hid (q1 = { q with status := tt }) := Lib.hid (by rw [HU0.out, if_neg n_basic, if_neg n_act, if_neg n_cont, if_pos n_note])
        have HNB : Hid (yn = noteNm) := Lib.hid n_note
        clear n_basic n_act n_cont n_note HKV
        have hgg := HGN.out k hlt HNO.out (by unfold isNote; rw [HNN.out]; exact decide_eq_true HNB.out)
        go_wp2_with fail
        refine (KX.out _ HBN.out).mono ?_
        rintro e w5 ⟨rfl, hb5⟩
        have HQ5 := Lib.hid (HQ2.out.keep hb5)
        have hbx := HBX.out.below hwl HQ5.out.below
        obtain ⟨v0, b0⟩ := hbx.c 0 (by omega)
        obtain ⟨v1, b1⟩ := hbx.c 1 (by omega)
        obtain ⟨v2, b2⟩ := hbx.c 2 (by omega)
        obtain ⟨v3, b3⟩ := hbx.c 3 (by omega)
        obtain ⟨v4, b4⟩ := hbx.c 4 (by omega)
        obtain ⟨v5, b5⟩ := hbx.c 5 (by omega)
        obtain ⟨v6, b6⟩ := hbx.c 6 (by omega)
        have f0 := hbx.f 0
        have f1 := hbx.f 1
        have f2 := hbx.f 2
        have f3 := hbx.f 3
        have f4 := hbx.f 4
        have f5 := hbx.f 5
        have f6 := hbx.f 6
        rw [HQ1.out, HU.out] at hgg
        subst hgg
        obtain ⟨qk, qf, qt, qs, qu, qp, qm⟩ := q
        have z0 := HQ5.out.is.c0
        have z1 := HQ5.out.is.c1
        have z2 := HQ5.out.is.c2
        have z3 := HQ5.out.is.c3
        have z4 := HQ5.out.is.c4
        have z5 := HQ5.out.is.c5
        have z6 := HQ5.out.is.c6
        have y4 := HQ5.out.fz 4
        have zl := HQ5.out.is.lt
        dsimp only at z0 z1 z2 z3 z4 z5 z6 ⊢
        have hn8 : w.heap.size ≠ pb := by omega
        have hn9 : pb ≠ w.heap.size := by omega
        have HB9 := Lib.hid ((HRB.out.trans (HQ5.out.below.mono HRB.out.size)).setCell (p := ⟨pb, 4, none⟩) (by show w.heap.size ≤ pb; omega) (.string tt))
        clear hb5 HQ2 HQ5 HGN HGA hwl2
        go_wp2
        try rw [Exit.noGoto_ret]
        exact bodyPost_ret (v := .agg #[.int .i64 qk, .string qf, .string qt, .int .i64 qs, .string tt, .int .i64 qp, .slice none 0 0]) (by simp [results, Tryz.results86, go_sem, b0, b1, b2, b3, b4, b5, b6, hn8, hn9]) rfl ⟨rfl, (((((((HB9.out.setCell (p := ⟨w.heap.size, 0, none⟩) (Nat.le_refl _) _).setCell (p := ⟨w.heap.size, 1, none⟩) (Nat.le_refl _) _).setCell (p := ⟨w.heap.size, 2, none⟩) (Nat.le_refl _) _).setCell (p := ⟨w.heap.size, 3, none⟩) (Nat.le_refl _) _).setCell (p := ⟨w.heap.size, 4, none⟩) (Nat.le_refl _) _).setCell (p := ⟨w.heap.size, 5, none⟩) (Nat.le_refl _) _).setCell (p := ⟨w.heap.size, 6, none⟩) (Nat.le_refl _) _)⟩
      have g_note : (yn.toList == [110, 111, 116, 101]) = false := nm_no (by rw [ByteArray.toList_eq]; rfl) n_note
      have HU : Hid (q1 = q) := Lib.hid (by rw [HU0.out, if_neg n_basic, if_neg n_act, if_neg n_cont, if_neg n_note])
      have HNB : Hid (yn ≠ noteNm) := Lib.hid n_note
      clear n_basic n_act n_cont n_note HKV
      go_wp2
      go_roundw
      case rel => exact ⟨k + 1, by omega, by go_num, HNT.out (by rw [HNN.out]; exact decide_eq_false HNB.out), by rw [HQ1.out, HU.out]; exact HQ2.out⟩
      case measure => simp [intOf]; omega
    · obtain rfl : k = n := by omega
      have hgg := HGA.out HNO.out
      have hbx := HBX.out.below hwl HQ.out.below
      obtain ⟨v0, b0⟩ := hbx.c 0 (by omega)
      obtain ⟨v1, b1⟩ := hbx.c 1 (by omega)
      obtain ⟨v2, b2⟩ := hbx.c 2 (by omega)
      obtain ⟨v3, b3⟩ := hbx.c 3 (by omega)
      obtain ⟨v4, b4⟩ := hbx.c 4 (by omega)
      obtain ⟨v5, b5⟩ := hbx.c 5 (by omega)
      obtain ⟨v6, b6⟩ := hbx.c 6 (by omega)
      have f0 := hbx.f 0
      have f1 := hbx.f 1
      have f2 := hbx.f 2
      have f3 := hbx.f 3
      have f4 := hbx.f 4
      have f5 := hbx.f 5
      have f6 := hbx.f 6
      have HQ' := HQ.out
      rw [← hgg] at HQ'
      obtain ⟨qk, qf, qt, qs, qu, qp, qm⟩ := gg
      have z0 := HQ'.is.c0
      have z1 := HQ'.is.c1
      have z2 := HQ'.is.c2
      have z3 := HQ'.is.c3
      have z4 := HQ'.is.c4
      have z5 := HQ'.is.c5
      have z6 := HQ'.is.c6
      have zl := HQ'.is.lt
      have HB9 := Lib.hid (HRB.out.trans (HQ'.below.mono HRB.out.size))
      dsimp only at z0 z1 z2 z3 z4 z5 z6
      clear hgg HQ' HQ HGN HGA
      go_wp2
      try rw [Exit.noGoto_ret]
      exact bodyPost_ret (v := .agg #[.int .i64 qk, .string qf, .string qt, .int .i64 qs, .string qu, .int .i64 qp, .slice none 0 0]) (by simp [results, Tryz.results86, go_sem, b0, b1, b2, b3, b4, b5, b6]) rfl ⟨rfl, (((((((HB9.out.setCell (p := ⟨w.heap.size, 0, none⟩) (Nat.le_refl _) _).setCell (p := ⟨w.heap.size, 1, none⟩) (Nat.le_refl _) _).setCell (p := ⟨w.heap.size, 2, none⟩) (Nat.le_refl _) _).setCell (p := ⟨w.heap.size, 3, none⟩) (Nat.le_refl _) _).setCell (p := ⟨w.heap.size, 4, none⟩) (Nat.le_refl _) _).setCell (p := ⟨w.heap.size, 5, none⟩) (Nat.le_refl _) _).setCell (p := ⟨w.heap.size, 6, none⟩) (Nat.le_refl _) _)⟩
theorem below8 {B b : Nat} {w W : World} (h : Below B w W) (hb : B ≤ b) (x0 x1 x2 x3 x4 x5 x6 x7 : Value) :
    Below B w ((((((((W.setCell ⟨b, 0, none⟩ x0).setCell ⟨b, 1, none⟩ x1).setCell ⟨b, 2, none⟩ x2).setCell ⟨b, 3, none⟩ x3).setCell ⟨b, 4, none⟩ x4).setCell ⟨b, 5, none⟩ x5).setCell ⟨b, 6, none⟩ x6).setCell ⟨b, 7, none⟩ x7) :=
  (((((((h.setCell (by exact hb) _).setCell (by exact hb) _).setCell (by exact hb) _).setCell (by exact hb) _).setCell (by exact hb) _).setCell (by exact hb) _).setCell (by exact hb) _).setCell (by exact hb) _
theorem own8 {W : World} {b lo hi : Nat} {a : Option Addr} {n c : Nat} {l : List It} (h : OwnIts W lo hi a n c l) (hb : b < lo) (x0 x1 x2 x3 x4 x5 x6 x7 : Value) :
    OwnIts ((((((((W.setCell ⟨b, 0, none⟩ x0).setCell ⟨b, 1, none⟩ x1).setCell ⟨b, 2, none⟩ x2).setCell ⟨b, 3, none⟩ x3).setCell ⟨b, 4, none⟩ x4).setCell ⟨b, 5, none⟩ x5).setCell ⟨b, 6, none⟩ x6).setCell ⟨b, 7, none⟩ x7) lo hi a n c l := by
  have st : ∀ (W : World) (i : Nat) (v : Value), OwnIts W lo hi a n c l → OwnIts (W.setCell ⟨b, i, none⟩ v) lo hi a n c l := fun W i v h =>
    h.only (Only.set (P := fun i => i = b) W ⟨b, i, none⟩ v rfl) fun i hlo hhi he => by omega
  exact st _ _ _ (st _ _ _ (st _ _ _ (st _ _ _ (st _ _ _ (st _ _ _ (st _ _ _ (st _ _ _ h)))))))
theorem prr_code (w w' : World) (cd : Int) (hb : Below w.heap.size w w') : PrrOwn w cd dPr (.returned (.agg #[.int .i64 cd, .int .i64 0, .string ⟨#[]⟩, .string ⟨#[]⟩, .int .i64 0, .string ⟨#[]⟩, .int .i64 0, .slice none 0 0])) w' :=
  ⟨none, 0, 0, rfl, OwnIts.nil _ _ _, hb⟩
end Go.Proofs.YtcaknhoaoodbfaaGreatDoor
