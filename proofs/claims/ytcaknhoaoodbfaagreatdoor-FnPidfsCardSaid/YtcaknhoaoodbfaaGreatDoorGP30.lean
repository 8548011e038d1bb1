/- spec.l8Read, spec.l8Guess. -/
import Derived.Test.YtcaknhoaoodbfaaGreatDoorGP23
import Derived.Test.YtcaknhoaoodbfaaGreatDoorGP28
import Derived.Test.YtcaknhoaoodbfaaGreatDoorGP29
import Derived.Test.YtcaknhoaoodbfaaGreatDoorGP3
import Derived.Test.YtcaknhoaoodbfaaGreatDoorGP11
import Derived.Deep.DeepCutAuto
import Derived.Test.YtcaknhoaoodbfaaGreatDoorGP16
import Derived.Test.YtcaknhoaoodbfaaGreatDoorGP25
import Derived.Deep.RegionHeld3
namespace Go.Proofs.YtcaknhoaoodbfaaGreatDoor
open Go.ChangeShapes Go.WideShapes Go.ChangeAt Go.RowKit
set_option linter.unusedVariables false
set_option linter.unusedSimpArgs false
theorem cut8 (s : ByteArray) (h : s.size = 5) : (s.extract 0 1 ++ s.extract 2 5).data.toList = s.data.toList.take 1 ++ s.data.toList.drop 2 := by
  rw [ByteArray.data_append, Array.toList_append]
  congr 1
  · rw [Lib.extract_eq]
    simp
  · rw [← h, Lib.extract_to_end]
theorem byte_at {s : ByteArray} {i : Nat} (h : i < s.size) : s.data.toList.getD i 0 = s[i] := by
  rw [List.getD_eq_getElem?_getD, List.getElem?_eq_getElem (by simpa using h)]
  rfl
set_option maxHeartbeats 1600000 in
theorem l8Read_any (s : ByteArray) (hs : s.size ≤ maxLen) (w : World) :
    Calls Tryz.prog 158 #[.string s] w fun e w' => e = .returned (.int .i64 (read8 s)) ∧ Below w.heap.size w w' := by
  unfold maxLen at hs
  by_cases h5 : s.size = 5
  case neg =>
    have e : read8 s = -1 := by unfold read8; rw [if_neg fun h => h5 h.1]
    rw [e]
    have q : ((s.size : Int) != 5) = true := by rw [bne_iff_ne]; omega
    clear e
    go_enter Tryz.func158, Tryz.ntmps158
    go_wp2
    go_ret
    exact ⟨rfl, Below.refl _ _⟩
  have h1 : 1 < s.size := by omega
  have hb := byte_at h1
  have q : ((s.size : Int) != 5) = false := by rw [bne_eq_false_iff_eq]; omega
  by_cases h46 : s[1] = 46
  case neg =>
    have e : read8 s = -1 := by unfold read8; rw [if_neg fun h => h46 (by rw [← hb]; exact h.2)]
    rw [e]
    have q2 : ((s[1].toNat : Int) != 46) = true := by rw [bne_iff_ne]; intro h; exact h46 (UInt8.toNat_inj.1 (by simpa using (by omega : s[1].toNat = 46)))
    have q3 : (1 : Int) < (s.size : Int) := by omega
    clear e h5
    go_enter Tryz.func158, Tryz.ntmps158
    go_wp2
    go_ret
    exact ⟨rfl, Below.refl _ _⟩
  have q2 : ((s[1].toNat : Int) != 46) = false := by rw [h46]; rfl
  have q3 : (1 : Int) < (s.size : Int) := by omega
  have q4 : (1 : Int) ≤ (s.size : Int) := by omega
  have q5 : (2 : Int) ≤ (s.size : Int) := by omega
  have e : read8 s = if inB (digits8 s) 0 1000 then digits8 s else -1 := by unfold read8; rw [if_pos ⟨h5, by rw [hb]; exact h46⟩]
  have hcut := cut8 s h5
  have hsz : (s.extract 0 1).size + (s.extract 2 5).size ≤ 5 := by rw [ByteArray.size_extract, ByteArray.size_extract]; omega
  have q6 : ¬ 9223372036854775807 < (s.extract 0 1).size + (s.extract 2 s.size).size := by rw [h5]; omega
  have q7 : ¬ (9223372036854775807 : Int) < ((s.extract 0 1).size : Int) + ((s.extract 2 s.size).size : Int) := by rw [h5]; omega
  have KN := Lib.hid (fun W => l3Number10 4 (by decide) (s.extract 0 1 ++ s.extract 2 s.size) (by rw [h5, ByteArray.size_append]; unfold maxLen; omega) W)
  rw [h5] at KN
  rw [hcut] at KN
  rw [e]
  unfold digits8
  generalize numberL 10 4 (s.data.toList.take 1 ++ s.data.toList.drop 2) = z at KN ⊢
  obtain ⟨r, hr⟩ : ∃ r, (if inB z 0 1000 then z else -1) = r := ⟨_, rfl⟩
  rw [hr]
  have HR := Lib.hid hr
  clear e hcut hsz hr hb
  clear q3 q4 q5 q6 q7
  go_enter Tryz.func158, Tryz.ntmps158
  go_wp2_with fail
  have hS0 : True := trivial
  go_region_held3 (fun _ => True) (first | trivial) (first | (go_at_call 206; refine (KN.out _).mono ?_; rintro e w7 ⟨rfl, rfl⟩))
  by_cases h0 : z < 0
  · have hrr := HR.out
    rw [if_neg (by unfold inB; simp; omega)] at hrr
    subst hrr
    go_wp2
    go_ret
    exact ⟨rfl, (Below.refl _ _).drew⟩
  · by_cases h9 : 1000 < z
    · have hrr := HR.out
      rw [if_neg (by unfold inB; simp; omega)] at hrr
      subst hrr
      go_wp2
      go_ret
      exact ⟨rfl, (Below.refl _ _).drew⟩
    · have hrr := HR.out
      rw [if_pos (by unfold inB; simp; omega)] at hrr
      subst hrr
      go_wp2
      go_ret
      exact ⟨rfl, (Below.refl _ _).drew⟩
def GuessRes (w : World) (q : Pr) (e : Ending) (w' : World) : Prop :=
  e = .returned (.agg #[.int .i64 q.kind, .string q.sender, .string q.goal, .int .i64 q.shown, .string q.status, .int .i64 q.prio, .slice none 0 0]) ∧ Below w.heap.size w w'
theorem nm_no {s t : ByteArray} {L : List UInt8} (hL : t.toList = L) (h : s ≠ t) : (s.toList == L) = false := by
  rw [← hL]
  exact str_ne h
theorem nm_yes {s t : ByteArray} {L : List UInt8} (hL : t.toList = L) (h : s = t) : (s.toList == L) = true := by
  rw [h, hL]
  simp
theorem val_size {l : List It} (hc : treeCode l = 0) {i : Nat} (hi : i < l.length) (nm : ByteArray) : (valT (valueL (l.getD i dIt).attrs nm)).size ≤ 60 := by
  unfold valueL
  cases hf : (l.getD i dIt).attrs.find? (fun x => x.name.toList == nm.toList) with
  | none => exact Nat.zero_le _
  | some y =>
    obtain ⟨j, hj, rfl⟩ := List.getElem_of_mem (List.mem_of_find?_eq_some hf)
    have := (atts_size hc hi).2 j hj
    rw [List.getD_eq_getElem?_getD, List.getElem?_eq_getElem hj] at this
    exact this
set_option maxRecDepth 100000 in
set_option maxHeartbeats 6400000 in
theorem l8Guess_any (a : Option Addr) (n c : Nat) (l : List It) (w : World) (hc : treeCode l = 0) (h : ItsAt w a n c l) :
    Calls Tryz.prog 90 #[.slice a n c] w (GuessRes w (guessM l)) := by
  have hR := rises_of hc
  have hlen := h.len
  have hn1 : 0 < n := by have := hR.some; omega
  have hn40 : n ≤ 40 := by have := hR.few; omega
  have KT := Lib.hid (fun W (hb : Below w.heap.size w W) p (hp : p < n) => specText_any a n c p l W (by omega) (fun i hi => by have := text_le hc (i := i) (by omega); omega) hp (h.below hb))
  obtain ⟨b, o, rfl, hat⟩ := h.row.resolve_left (by omega)
  have hbw : b < w.heap.size := (hat 0 hn1).lt
  have HAT := Lib.hid (fun W (hb : Below w.heap.size w W) i (hi : i < n) => (hat i hi).below hb)
  have KV := Lib.hid (fun W (hb : Below w.heap.size w W) i (hi : i < n) name => specValue_any b (o + i * 5) (l.getD i dIt) name W ((hat i hi).below hb))
  have HVS := Lib.hid (fun i (hi : i < n) nm => val_size hc (i := i) (by omega) nm)
  obtain ⟨wR, hwR⟩ : ∃ wR, w.alloc (.cells #[.int .i64 0, .string ⟨#[]⟩, .string ⟨#[]⟩, .int .i64 0, .string ⟨#[]⟩, .int .i64 0, .slice none 0 0] 26) = wR := ⟨_, rfl⟩
  have HRB : Hid (Below w.heap.size w wR) := Lib.hid (by rw [← hwR]; exact below1 _ _)
  have hwl : w.heap.size < wR.heap.size := by rw [← hwR]; simp
  have HBX : Hid (Box7 wR w.heap.size) := Lib.hid (by
    rw [← hwR]
    refine ⟨fun i hi => ?_, fun i => by simp⟩
    match i, hi with
    | 0, _ => exact ⟨.int .i64 0, by simp⟩
    | 1, _ => exact ⟨.string ⟨#[]⟩, by simp⟩
    | 2, _ => exact ⟨.string ⟨#[]⟩, by simp⟩
    | 3, _ => exact ⟨.int .i64 0, by simp⟩
    | 4, _ => exact ⟨.string ⟨#[]⟩, by simp⟩
    | 5, _ => exact ⟨.int .i64 0, by simp⟩
    | 6, _ => exact ⟨.slice none 0 0, by simp⟩)
  have HP0 : Hid (PrMut wR (wR.alloc (.cells #[.int .i64 0, .string ⟨#[]⟩, .string ⟨#[]⟩, .int .i64 0, .string ⟨#[]⟩, .int .i64 0, .slice none 0 0] 26)) wR.heap.size dPr none 0 0) := Lib.hid (PrMut.new wR wR (Below.refl _ _) 26 dPr none 0 0)
  obtain ⟨pb, hpb⟩ : ∃ pb, wR.heap.size = pb := ⟨_, rfl⟩
  rw [hpb] at HP0
  have hwl2 : w.heap.size < pb := by omega
  have HUP : Hid (∀ k, upM l (k + 1) = stepM l k (upM l k)) := Lib.hid fun k => rfl
  have HS0 : Hid (upM l 0 = { dPr with sender := behind5 (valT (valueL (l.getD 0 dIt).attrs entityNm)) }) := Lib.hid rfl
  have HG : Hid (guessM l = upM l n) := Lib.hid (by unfold guessM; rw [hlen])
  obtain ⟨gg, hgg⟩ : ∃ gg, guessM l = gg := ⟨_, rfl⟩
  rw [hgg] at HG ⊢
  have hf0 : (0 : Int) < (n : Int) := by omega
  unfold GuessRes
  clear h hc hR hat hlen hgg
  have hat0 := HAT.out _ (HRB.out.trans ((below1 wR (.cells #[.int .i64 0, .string ⟨#[]⟩, .string ⟨#[]⟩, .int .i64 0, .string ⟨#[]⟩, .int .i64 0, .slice none 0 0] 26)).mono HRB.out.size)) 0 hn1
  have KV0 := Lib.hid (KV.out _ (HRB.out.trans ((below1 wR (.cells #[.int .i64 0, .string ⟨#[]⟩, .string ⟨#[]⟩, .int .i64 0, .string ⟨#[]⟩, .int .i64 0, .slice none 0 0] 26)).mono HRB.out.size)) 0 hn1 entityNm)
  have HV0 := Lib.hid (HVS.out 0 hn1 entityNm)
  clear hat0
  unfold entityNm at KV0 HV0 HS0
  generalize valT (valueL (l.getD 0 dIt).attrs ⟨#[101, 110, 116, 105, 116, 121]⟩) = ent at KV0 HV0 HS0
  rw [Nat.zero_mul, Nat.add_zero] at KV0
  go_enter Tryz.func90, Tryz.ntmps90
  go_wp2_with fail
  refine KV0.out.mono ?_
  rintro e w1 ⟨rfl, rfl⟩
  clear KV0
  generalize wR.alloc (.cells #[.int .i64 0, .string ⟨#[]⟩, .string ⟨#[]⟩, .int .i64 0, .string ⟨#[]⟩, .int .i64 0, .slice none 0 0] 26) = w1 at HP0 ⊢
  have z1 := HP0.out.is.c1
  have y1 := HP0.out.fz 1
  by_cases h5 : 5 < ent.size
  · have q5 : (5 : Int) < (ent.size : Int) := by omega
    have q6 : (5 : Int) ≤ (ent.size : Int) := by omega
    have HP1 : Hid (PrMut wR (w1.setCell ⟨pb, 1, none⟩ (.string (ent.extract 5 ent.size))) pb (upM l 0) none 0 0) := Lib.hid (by
      rw [HS0.out]
      unfold behind5
      rw [if_pos h5]
      exact HP0.out.setSender _)
    clear h5 HS0 hpb
    go_wp2
    clear z1 y1 HP0 q5 q6
    go_loopw [26] (fun i wr => ∃ k : Nat, k ≤ n ∧ i = .int .i64 (k : Int) ∧ PrMut wR wr pb (upM l k) none 0 0) (fun i _ => n - (intOf i).toNat)
    case atStart => exact ⟨0, Nat.zero_le _, rfl, HP1.out⟩
    case round =>
      obtain ⟨k, hk, rfl, hq⟩ := hrel
      have HQ := Lib.hid hq
      clear hq HP1
      by_cases hlt : k < n
      · have hbr : Below w.heap.size w wr := HRB.out.trans (HQ.out.below.mono HRB.out.size)
        have KTk := Lib.hid (KT.out wr hbr k hlt)
        have HU0 := Lib.hid (HUP.out k)
        unfold stepM at HU0
        have hsz := HVS.out k hlt prioKey
        have q0 : (k : Int) < (n : Int) := by omega
        have c3 := (HAT.out wr hbr k hlt).c3
        have HKV := Lib.hid (fun W (hW : Below wr.heap.size wr W) => KV.out W (hbr.trans (hW.mono hbr.size)) k hlt prioKey)
        have hbwr : b < wr.heap.size := World.block_lt_of_cell? _ _ c3
        clear hbr
        obtain ⟨q1, hq1⟩ : ∃ q1, upM l (k + 1) = q1 := ⟨_, rfl⟩
        rw [hq1] at HU0
        have HQ1 := Lib.hid hq1
        clear hq1
        generalize upM l k = q at HQ HU0
        generalize txtT (textL l k) = tt at KTk HU0
        generalize l.getD k dIt = y at HU0 hsz c3 HKV
        obtain ⟨yd, yt, ys, yn, ya⟩ := y
        dsimp only at HU0 hsz c3 HKV
        generalize valT (valueL ya prioKey) = pv at HU0 hsz HKV
        go_wp2_with fail
        refine KTk.out.mono ?_
        rintro e w3 ⟨rfl, nd, rfl⟩
        have hbn : Below wr.heap.size wr (wr.drewN nd) := below_drewN (Below.refl _ _) nd
        have HQ2 := Lib.hid (HQ.out.keep hbn)
        have c3 := (hbn.cell (p := ⟨b, o + k * 5 + 3, none⟩) hbwr).trans c3
        have HBN := Lib.hid hbn
        have hbw3 : b < (wr.drewN nd).heap.size := hbwr
        clear HQ hbn KTk
        generalize wr.drewN nd = w3 at HQ2 HBN c3 hbw3 ⊢
        by_cases n_basic : yn = basicNm
        case pos =>
          have g_basic : (yn.toList == [98, 97, 115, 105, 99]) = true := nm_yes (by rw [ByteArray.toList_eq]; rfl) n_basic
          by_cases t1 : tt = closedT
          · have g2 : (tt.toList == [99, 108, 111, 115, 101, 100]) = true := nm_yes (by rw [ByteArray.toList_eq]; rfl) t1
            have HU : Hid (q1 = { q with kind := 1 }) := Lib.hid (by rw [HU0.out, if_pos n_basic, if_pos t1])
            clear t1 n_basic HKV
            have z := HQ2.out.is.c0
            have y := HQ2.out.fz 0
            go_wp2
            go_roundw
            case rel => exact ⟨k + 1, by omega, by go_num, by rw [HQ1.out, HU.out]; exact HQ2.out.setKind 1⟩
            case measure => simp [intOf]; omega
          · have g2 : (tt.toList == [99, 108, 111, 115, 101, 100]) = false := nm_no (by rw [ByteArray.toList_eq]; rfl) t1
            have HU : Hid (q1 = q) := Lib.hid (by rw [HU0.out, if_pos n_basic, if_neg t1])
            clear t1 n_basic HKV
            go_wp2
            go_roundw
            case rel => exact ⟨k + 1, by omega, by go_num, by rw [HQ1.out, HU.out]; exact HQ2.out⟩
            case measure => simp [intOf]; omega
        have g_basic : (yn.toList == [98, 97, 115, 105, 99]) = false := nm_no (by rw [ByteArray.toList_eq]; rfl) n_basic
        by_cases n_away : yn = awayNm
        case pos =>
          have g_away : (yn.toList == [97, 119, 97, 121]) = true := nm_yes (by rw [ByteArray.toList_eq]; rfl) n_away
          have HU : Hid (q1 = { q with shown := 1 }) := Lib.hid (by rw [HU0.out, if_neg n_basic, if_pos n_away])
          clear n_basic n_away HKV
          have z := HQ2.out.is.c3
          have y := HQ2.out.fz 3
          go_wp2
          go_roundw
          case rel => exact ⟨k + 1, by omega, by go_num, by rw [HQ1.out, HU.out]; exact HQ2.out.setShown 1⟩
          case measure => simp [intOf]; omega
        have g_away : (yn.toList == [97, 119, 97, 121]) = false := nm_no (by rw [ByteArray.toList_eq]; rfl) n_away
        by_cases n_busy : yn = busyNm
        case pos =>
          have g_busy : (yn.toList == [98, 117, 115, 121]) = true := nm_yes (by rw [ByteArray.toList_eq]; rfl) n_busy
          have HU : Hid (q1 = { q with shown := 3 }) := Lib.hid (by rw [HU0.out, if_neg n_basic, if_neg n_away, if_pos n_busy])
          clear n_basic n_away n_busy HKV
          have z := HQ2.out.is.c3
          have y := HQ2.out.fz 3
          go_wp2
          go_roundw
          case rel => exact ⟨k + 1, by omega, by go_num, by rw [HQ1.out, HU.out]; exact HQ2.out.setShown 3⟩
          case measure => simp [intOf]; omega
        have g_busy : (yn.toList == [98, 117, 115, 121]) = false := nm_no (by rw [ByteArray.toList_eq]; rfl) n_busy
        by_cases n_note : yn = noteNm
        case pos =>
          have g_note : (yn.toList == [110, 111, 116, 101]) = true := nm_yes (by rw [ByteArray.toList_eq]; rfl) n_note
          have HU : Hid (q1 = { q with status := tt }) := Lib.hid (by rw [HU0.out, if_neg n_basic, if_neg n_away, if_neg n_busy, if_pos n_note])
          clear n_basic n_away n_busy n_note HKV
          have z := HQ2.out.is.c4
          have y := HQ2.out.fz 4
          go_wp2
          go_roundw
          case rel => exact ⟨k + 1, by omega, by go_num, by rw [HQ1.out, HU.out]; exact HQ2.out.setStatus tt⟩
          case measure => simp [intOf]; omega
        have g_note : (yn.toList == [110, 111, 116, 101]) = false := nm_no (by rw [ByteArray.toList_eq]; rfl) n_note
        by_cases n_cont : yn = contNm
        case pos =>
          have g_cont : (yn.toList == [99, 111, 110, 116, 97, 99, 116]) = true := nm_yes (by rw [ByteArray.toList_eq]; rfl) n_cont
          have HU : Hid (q1 = { q with prio := prioVal (read8 pv) }) := Lib.hid (by rw [HU0.out, if_neg n_basic, if_neg n_away, if_neg n_busy, if_neg n_note, if_pos n_cont])
          clear n_basic n_away n_busy n_note n_cont
          unfold prioKey at HKV
          go_wp2_with fail
          refine (HKV.out _ HBN.out).mono ?_
          rintro e w4 ⟨rfl, rfl⟩
          go_wp2_with fail
          refine (l8Read_any pv (by unfold maxLen; omega) _).mono ?_
          rintro e w5 ⟨rfl, hb5⟩
          have HQ5 := Lib.hid (HQ2.out.keep hb5)
          clear hb5 HQ2 HBN c3 HKV
          go_wp2_with fail
          refine (specPriorityOf_any (read8 pv) _).mono ?_
          rintro e w6 ⟨rfl, hb6⟩
          have HQ2 := Lib.hid (HQ5.out.keep hb6)
          have fi := fun W => field_ival (prioCode (read8 pv)) (prioVal (read8 pv)) W
          clear hb6 HQ5
          have z := HQ2.out.is.c5
          have y := HQ2.out.fz 5
          go_wp2
          go_roundw
          case rel => exact ⟨k + 1, by omega, by go_num, by rw [HQ1.out, HU.out]; exact HQ2.out.setPrio _⟩
          case measure => simp [intOf]; omega
        have g_cont : (yn.toList == [99, 111, 110, 116, 97, 99, 116]) = false := nm_no (by rw [ByteArray.toList_eq]; rfl) n_cont
        have HU : Hid (q1 = q) := Lib.hid (by rw [HU0.out, if_neg n_basic, if_neg n_away, if_neg n_busy, if_neg n_note, if_neg n_cont])
        clear n_basic n_away n_busy n_note n_cont HKV
        go_wp2
        go_roundw
        case rel => exact ⟨k + 1, by omega, by go_num, by rw [HQ1.out, HU.out]; exact HQ2.out⟩
        case measure => simp [intOf]; omega
      · obtain rfl : k = n := by omega
        have hbx := HBX.out.below hwl HQ.out.below
        obtain ⟨v0, b0⟩ := hbx.c 0 (by omega)
        obtain ⟨v1, b1⟩ := hbx.c 1 (by omega)
        obtain ⟨v2, b2⟩ := hbx.c 2 (by omega)
        obtain ⟨v3, b3⟩ := hbx.c 3 (by omega)
        obtain ⟨v4, b4⟩ := hbx.c 4 (by omega)
        obtain ⟨v5, b5⟩ := hbx.c 5 (by omega)
        obtain ⟨v6, b6⟩ := hbx.c 6 (by omega)
        have f0 := hbx.f 0
        have f1 := hbx.f 1
        have f2 := hbx.f 2
        have f3 := hbx.f 3
        have f4 := hbx.f 4
        have f5 := hbx.f 5
        have f6 := hbx.f 6
        have hgg := HG.out
        have HQ' := HQ.out
        rw [← hgg] at HQ'
        obtain ⟨qk, qf, qt, qs, qu, qp, qm⟩ := gg
        have z0 := HQ'.is.c0
        have z1 := HQ'.is.c1
        have z2 := HQ'.is.c2
        have z3 := HQ'.is.c3
        have z4 := HQ'.is.c4
        have z5 := HQ'.is.c5
        have z6 := HQ'.is.c6
        have zl := HQ'.is.lt
        have HB9 := Lib.hid (HRB.out.trans (HQ'.below.mono HRB.out.size))
        dsimp only at z0 z1 z2 z3 z4 z5 z6
        clear hgg HQ' HQ HG
        go_wp2
        exact bodyPost_ret (v := .agg #[.int .i64 qk, .string qf, .string qt, .int .i64 qs, .string qu, .int .i64 qp, .slice none 0 0]) (by simp [results, Tryz.results90, go_sem, b0, b1, b2, b3, b4, b5, b6]) rfl ⟨rfl, (((((((HB9.out.setCell (p := ⟨w.heap.size, 0, none⟩) (Nat.le_refl _) _).setCell (p := ⟨w.heap.size, 1, none⟩) (Nat.le_refl _) _).setCell (p := ⟨w.heap.size, 2, none⟩) (Nat.le_refl _) _).setCell (p := ⟨w.heap.size, 3, none⟩) (Nat.le_refl _) _).setCell (p := ⟨w.heap.size, 4, none⟩) (Nat.le_refl _) _).setCell (p := ⟨w.heap.size, 5, none⟩) (Nat.le_refl _) _).setCell (p := ⟨w.heap.size, 6, none⟩) (Nat.le_refl _) _)⟩
  · have q5 : ¬ (5 : Int) < (ent.size : Int) := by omega
    have HP1 : Hid (PrMut wR w1 pb (upM l 0) none 0 0) := Lib.hid (by
      rw [HS0.out]
      unfold behind5
      rw [if_neg h5]
      exact HP0.out)
    clear h5 HS0 hpb
    go_wp2
    clear z1 y1 HP0 q5
    go_loopw [26] (fun i wr => ∃ k : Nat, k ≤ n ∧ i = .int .i64 (k : Int) ∧ PrMut wR wr pb (upM l k) none 0 0) (fun i _ => n - (intOf i).toNat)
    case atStart => exact ⟨0, Nat.zero_le _, rfl, HP1.out⟩
    case round =>
      obtain ⟨k, hk, rfl, hq⟩ := hrel
      have HQ := Lib.hid hq
      clear hq HP1
      by_cases hlt : k < n
      · have hbr : Below w.heap.size w wr := HRB.out.trans (HQ.out.below.mono HRB.out.size)
        have KTk := Lib.hid (KT.out wr hbr k hlt)
        have HU0 := Lib.hid (HUP.out k)
        unfold stepM at HU0
        have hsz := HVS.out k hlt prioKey
        have q0 : (k : Int) < (n : Int) := by omega
        have c3 := (HAT.out wr hbr k hlt).c3
        have HKV := Lib.hid (fun W (hW : Below wr.heap.size wr W) => KV.out W (hbr.trans (hW.mono hbr.size)) k hlt prioKey)
        have hbwr : b < wr.heap.size := World.block_lt_of_cell? _ _ c3
        clear hbr
        obtain ⟨q1, hq1⟩ : ∃ q1, upM l (k + 1) = q1 := ⟨_, rfl⟩
        rw [hq1] at HU0
        have HQ1 := Lib.hid hq1
        clear hq1
        generalize upM l k = q at HQ HU0
        generalize txtT (textL l k) = tt at KTk HU0
        generalize l.getD k dIt = y at HU0 hsz c3 HKV
        obtain ⟨yd, yt, ys, yn, ya⟩ := y
        dsimp only at HU0 hsz c3 HKV
        generalize valT (valueL ya prioKey) = pv at HU0 hsz HKV
        go_wp2_with fail
        refine KTk.out.mono ?_
        rintro e w3 ⟨rfl, nd, rfl⟩
        have hbn : Below wr.heap.size wr (wr.drewN nd) := below_drewN (Below.refl _ _) nd
        have HQ2 := Lib.hid (HQ.out.keep hbn)
        have c3 := (hbn.cell (p := ⟨b, o + k * 5 + 3, none⟩) hbwr).trans c3
        have HBN := Lib.hid hbn
        have hbw3 : b < (wr.drewN nd).heap.size := hbwr
        clear HQ hbn KTk
        generalize wr.drewN nd = w3 at HQ2 HBN c3 hbw3 ⊢
        by_cases n_basic : yn = basicNm
        case pos =>
          have g_basic : (yn.toList == [98, 97, 115, 105, 99]) = true := nm_yes (by rw [ByteArray.toList_eq]; rfl) n_basic
          by_cases t1 : tt = closedT
          · have g2 : (tt.toList == [99, 108, 111, 115, 101, 100]) = true := nm_yes (by rw [ByteArray.toList_eq]; rfl) t1
            have HU : Hid (q1 = { q with kind := 1 }) := Lib.hid (by rw [HU0.out, if_pos n_basic, if_pos t1])
            clear t1 n_basic HKV
            have z := HQ2.out.is.c0
            have y := HQ2.out.fz 0
            go_wp2
            go_roundw
            case rel => exact ⟨k + 1, by omega, by go_num, by rw [HQ1.out, HU.out]; exact HQ2.out.setKind 1⟩
            case measure => simp [intOf]; omega
          · have g2 : (tt.toList == [99, 108, 111, 115, 101, 100]) = false := nm_no (by rw [ByteArray.toList_eq]; rfl) t1
            have HU : Hid (q1 = q) := Lib.hid (by rw [HU0.out, if_pos n_basic, if_neg t1])
            clear t1 n_basic HKV
            go_wp2
            go_roundw
            case rel => exact ⟨k + 1, by omega, by go_num, by rw [HQ1.out, HU.out]; exact HQ2.out⟩
            case measure => simp [intOf]; omega
        have g_basic : (yn.toList == [98, 97, 115, 105, 99]) = false := nm_no (by rw [ByteArray.toList_eq]; rfl) n_basic
        by_cases n_away : yn = awayNm
        case pos =>
          have g_away : (yn.toList == [97, 119, 97, 121]) = true := nm_yes (by rw [ByteArray.toList_eq]; rfl) n_away
          have HU : Hid (q1 = { q with shown := 1 }) := Lib.hid (by rw [HU0.out, if_neg n_basic, if_pos n_away])
          clear n_basic n_away HKV
          have z := HQ2.out.is.c3
          have y := HQ2.out.fz 3
          go_wp2
          go_roundw
          case rel => exact ⟨k + 1, by omega, by go_num, by rw [HQ1.out, HU.out]; exact HQ2.out.setShown 1⟩
          case measure => simp [intOf]; omega
        have g_away : (yn.toList == [97, 119, 97, 121]) = false := nm_no (by rw [ByteArray.toList_eq]; rfl) n_away
        by_cases n_busy : yn = busyNm
        case pos =>
          have g_busy : (yn.toList == [98, 117, 115, 121]) = true := nm_yes (by rw [ByteArray.toList_eq]; rfl) n_busy
          have HU : Hid (q1 = { q with shown := 3 }) := Lib.hid (by rw [HU0.out, if_neg n_basic, if_neg n_away, if_pos n_busy])
          clear n_basic n_away n_busy HKV
          have z := HQ2.out.is.c3
          have y := HQ2.out.fz 3
          go_wp2
          go_roundw
          case rel => exact ⟨k + 1, by omega, by go_num, by rw [HQ1.out, HU.out]; exact HQ2.out.setShown 3⟩
          case measure => simp [intOf]; omega
        have g_busy : (yn.toList == [98, 117, 115, 121]) = false := nm_no (by rw [ByteArray.toList_eq]; rfl) n_busy
        by_cases n_note : yn = noteNm
        case pos =>
          have g_note : (yn.toList == [110, 111, 116, 101]) = true := nm_yes (by rw [ByteArray.toList_eq]; rfl) n_note
          have HU : Hid (q1 = { q with status := tt }) := Lib.hid (by rw [HU0.out, if_neg n_basic, if_neg n_away, if_neg n_busy, if_pos n_note])
          clear n_basic n_away n_busy n_note HKV
          have z := HQ2.out.is.c4
          have y := HQ2.out.fz 4
          go_wp2
          go_roundw
          case rel => exact ⟨k + 1, by omega, by go_num, by rw [HQ1.out, HU.out]; exact HQ2.out.setStatus tt⟩
          case measure => simp [intOf]; omega
        have g_note : (yn.toList == [110, 111, 116, 101]) = false := nm_no (by rw [ByteArray.toList_eq]; rfl) n_note
        by_cases n_cont : yn = contNm
        case pos =>
          have g_cont : (yn.toList == [99, 111, 110, 116, 97, 99, 116]) = true := nm_yes (by rw [ByteArray.toList_eq]; rfl) n_cont
          have HU : Hid (q1 = { q with prio := prioVal (read8 pv) }) := Lib.hid (by rw [HU0.out, if_neg n_basic, if_neg n_away, if_neg n_busy, if_neg n_note, if_pos n_cont])
          clear n_basic n_away n_busy n_note n_cont
          unfold prioKey at HKV
          go_wp2_with fail
          refine (HKV.out _ HBN.out).mono ?_
          rintro e w4 ⟨rfl, rfl⟩
          go_wp2_with fail
          refine (l8Read_any pv (by unfold maxLen; omega) _).mono ?_
          rintro e w5 ⟨rfl, hb5⟩
          have HQ5 := Lib.hid (HQ2.out.keep hb5)
          clear hb5 HQ2 HBN c3 HKV
          go_wp2_with fail
          refine (specPriorityOf_any (read8 pv) _).mono ?_
          rintro e w6 ⟨rfl, hb6⟩
          have HQ2 := Lib.hid (HQ5.out.keep hb6)
          have fi := fun W => field_ival (prioCode (read8 pv)) (prioVal (read8 pv)) W
          clear hb6 HQ5
          have z := HQ2.out.is.c5
          have y := HQ2.out.fz 5
          go_wp2
          go_roundw
          case rel => exact ⟨k + 1, by omega, by go_num, by rw [HQ1.out, HU.out]; exact HQ2.out.setPrio _⟩
          case measure => simp [intOf]; omega
        have g_cont : (yn.toList == [99, 111, 110, 116, 97, 99, 116]) = false := nm_no (by rw [ByteArray.toList_eq]; rfl) n_cont
        have HU : Hid (q1 = q) := Lib.hid (by rw [HU0.out, if_neg n_basic, if_neg n_away, if_neg n_busy, if_neg n_note, if_neg n_cont])
        clear n_basic n_away n_busy n_note n_cont HKV
        go_wp2
        go_roundw
        case rel => exact ⟨k + 1, by omega, by go_num, by rw [HQ1.out, HU.out]; exact HQ2.out⟩
        case measure => simp [intOf]; omega
      · obtain rfl : k = n := by omega
        have hbx := HBX.out.below hwl HQ.out.below
        obtain ⟨v0, b0⟩ := hbx.c 0 (by omega)
        obtain ⟨v1, b1⟩ := hbx.c 1 (by omega)
        obtain ⟨v2, b2⟩ := hbx.c 2 (by omega)
        obtain ⟨v3, b3⟩ := hbx.c 3 (by omega)
        obtain ⟨v4, b4⟩ := hbx.c 4 (by omega)
        obtain ⟨v5, b5⟩ := hbx.c 5 (by omega)
        obtain ⟨v6, b6⟩ := hbx.c 6 (by omega)
        have f0 := hbx.f 0
        have f1 := hbx.f 1
        have f2 := hbx.f 2
        have f3 := hbx.f 3
        have f4 := hbx.f 4
        have f5 := hbx.f 5
        have f6 := hbx.f 6
        have hgg := HG.out
        have HQ' := HQ.out
        rw [← hgg] at HQ'
        obtain ⟨qk, qf, qt, qs, qu, qp, qm⟩ := gg
        have z0 := HQ'.is.c0
        have z1 := HQ'.is.c1
        have z2 := HQ'.is.c2
        have z3 := HQ'.is.c3
        have z4 := HQ'.is.c4
        have z5 := HQ'.is.c5
        have z6 := HQ'.is.c6
        have zl := HQ'.is.lt
        have HB9 := Lib.hid (HRB.out.trans (HQ'.below.mono HRB.out.size))
        dsimp only at z0 z1 z2 z3 z4 z5 z6
        clear hgg HQ' HQ HG
        go_wp2
        exact bodyPost_ret (v := .agg #[.int .i64 qk, .string qf, .string qt, .int .i64 qs, .string qu, .int .i64 qp, .slice none 0 0]) (by simp [results, Tryz.results90, go_sem, b0, b1, b2, b3, b4, b5, b6]) rfl ⟨rfl, (((((((HB9.out.setCell (p := ⟨w.heap.size, 0, none⟩) (Nat.le_refl _) _).setCell (p := ⟨w.heap.size, 1, none⟩) (Nat.le_refl _) _).setCell (p := ⟨w.heap.size, 2, none⟩) (Nat.le_refl _) _).setCell (p := ⟨w.heap.size, 3, none⟩) (Nat.le_refl _) _).setCell (p := ⟨w.heap.size, 4, none⟩) (Nat.le_refl _) _).setCell (p := ⟨w.heap.size, 5, none⟩) (Nat.le_refl _) _).setCell (p := ⟨w.heap.size, 6, none⟩) (Nat.le_refl _) _)⟩
end Go.Proofs.YtcaknhoaoodbfaaGreatDoor
