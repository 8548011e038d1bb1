/- The model's PriorityOf. -/
import Derived.Test.YticpebpicdboaaaGreatDoorGY8
import Derived.Test.YticpebpicdboaaaGreatDoorGY14
import Derived.IntWalk
import Derived.Test.YticpebpicdboaaaGreatDoorGY19
import Derived.Test.YticpebpicdboaaaGreatDoorGY34
import Derived.Test.YticpebpicdboaaaGreatDoorGY17
import Derived.Test.YticpebpicdboaaaGreatDoorGY27
import Derived.Deep.RegionHeld3
import Derived.Test.YticpebpicdboaaaGreatDoorGY26
import Derived.Test.YticpebpicdboaaaGreatDoorGY30
import Derived.Test.YticpebpicdboaaaGreatDoorGY18
namespace Go.Proofs.YticpebpicdboaaaGreatDoor
open Go.ChangeShapes Go.WideShapes Go.ChangeAt Go.RowKit
set_option linter.unusedVariables false

set_option maxHeartbeats 800000 in
theorem specPriorityOf_any (n : Int) (w : World) : Calls Tryz.prog 183 #[.int .i64 n] w (Res2 w (prioCode n) (prioVal n)) := by
  unfold prioCode prioVal
  cases h : inB n 0 1000
  · go_enter Tryz.func183, Tryz.ntmps183
    go_wp2_with fail
    refine (l1In_any _ _ _ _).mono ?_
    rw [h]
    rintro e w1 ⟨rfl, rfl⟩
    go_wp2
    exact bodyPost_ret (v := .agg #[.int .i64 3, .int .i64 0]) (by simp [results, Tryz.results183, go_sem]) rfl ⟨rfl, below1 w _⟩
  · have hb : 0 ≤ n ∧ n ≤ 1000 := by simpa [inB] using h
    obtain ⟨h0, h1⟩ := hb
    have k1 : IntKind.i64.wrap (127 * n) = 127 * n := IntWalk.i64_in _ (by omega)
    have k2 : IntKind.i64.wrap (127 * n + 500) = 127 * n + 500 := IntWalk.i64_in _ (by omega)
    have k3 : (127 * n + 500).tdiv 1000 = (127 * n + 500) / 1000 := Int.tdiv_eq_ediv_of_nonneg (by omega)
    have k4 : IntKind.i64.wrap ((127 * n + 500) / 1000) = (127 * n + 500) / 1000 := IntWalk.i64_in _ (by omega)
    simp only [if_true]
    go_enter Tryz.func183, Tryz.ntmps183
    go_wp2_with fail
    refine (l1In_any _ _ _ _).mono ?_
    rw [h]
    rintro e w1 ⟨rfl, rfl⟩
    clear h
    go_wp2
    exact bodyPost_ret (v := .agg #[.int .i64 0, .int .i64 ((127 * n + 500) / 1000)]) (by simp [results, Tryz.results183, go_sem]) rfl ⟨rfl, below1 w _⟩
end Go.Proofs.YticpebpicdboaaaGreatDoor

/- spec.l8Read, spec.l8Guess. -/
namespace Go.Proofs.YticpebpicdboaaaGreatDoor
open Go.ChangeShapes Go.WideShapes Go.ChangeAt Go.RowKit
set_option linter.unusedVariables false
set_option linter.unusedSimpArgs false

theorem cut8 (s : ByteArray) (h : s.size = 5) : (s.extract 0 1 ++ s.extract 2 5).data.toList = s.data.toList.take 1 ++ s.data.toList.drop 2 := by
  rw [ByteArray.data_append, Array.toList_append]
  congr 1
  · rw [Lib.extract_eq]
    simp
  · rw [← h, Lib.extract_to_end]
theorem byte_at {s : ByteArray} {i : Nat} (h : i < s.size) : s.data.toList.getD i 0 = s[i] := by
  rw [List.getD_eq_getElem?_getD, List.getElem?_eq_getElem (by simpa using h)]
  rfl
set_option maxHeartbeats 1600000 in
theorem l8Read_any (s : ByteArray) (hs : s.size ≤ maxLen) (w : World) :
    Calls Tryz.prog 184 #[.string s] w fun e w' => e = .returned (.int .i64 (read8 s)) ∧ Below w.heap.size w w' := by
  unfold maxLen at hs
  by_cases h5 : s.size = 5
  case neg =>
    have e : read8 s = -1 := by unfold read8; rw [if_neg fun h => h5 h.1]
    rw [e]
    have q : ((s.size : Int) != 5) = true := by rw [bne_iff_ne]; omega
    clear e
    go_enter Tryz.func184, Tryz.ntmps184
    go_wp2
    go_ret
    exact ⟨rfl, Below.refl _ _⟩
  have h1 : 1 < s.size := by omega
  have hb := byte_at h1
  have q : ((s.size : Int) != 5) = false := by rw [bne_eq_false_iff_eq]; omega
  by_cases h46 : s[1] = 46
  case neg =>
    have e : read8 s = -1 := by unfold read8; rw [if_neg fun h => h46 (by rw [← hb]; exact h.2)]
    rw [e]
    have q2 : ((s[1].toNat : Int) != 46) = true := by rw [bne_iff_ne]; intro h; exact h46 (UInt8.toNat_inj.1 (by simpa using (by omega : s[1].toNat = 46)))
    have q3 : (1 : Int) < (s.size : Int) := by omega
    clear e h5
    go_enter Tryz.func184, Tryz.ntmps184
    go_wp2
    go_ret
    exact ⟨rfl, Below.refl _ _⟩
  have q2 : ((s[1].toNat : Int) != 46) = false := by rw [h46]; rfl
  have q3 : (1 : Int) < (s.size : Int) := by omega
  have q4 : (1 : Int) ≤ (s.size : Int) := by omega
  have q5 : (2 : Int) ≤ (s.size : Int) := by omega
  have e : read8 s = if inB (digits8 s) 0 1000 then digits8 s else -1 := by unfold read8; rw [if_pos ⟨h5, by rw [hb]; exact h46⟩]
  have hcut := cut8 s h5
  have hsz : (s.extract 0 1).size + (s.extract 2 5).size ≤ 5 := by rw [ByteArray.size_extract, ByteArray.size_extract]; omega
  have q6 : ¬ 9223372036854775807 < (s.extract 0 1).size + (s.extract 2 s.size).size := by rw [h5]; omega
  have q7 : ¬ (9223372036854775807 : Int) < ((s.extract 0 1).size : Int) + ((s.extract 2 s.size).size : Int) := by rw [h5]; omega
  have KN := Lib.hid (fun W => l3Number10 4 (by decide) (s.extract 0 1 ++ s.extract 2 s.size) (by rw [h5, ByteArray.size_append]; unfold maxLen; omega) W)
  rw [h5] at KN
  rw [hcut] at KN
  rw [e]
  unfold digits8
  generalize numberL 10 4 (s.data.toList.take 1 ++ s.data.toList.drop 2) = z at KN ⊢
  obtain ⟨r, hr⟩ : ∃ r, (if inB z 0 1000 then z else -1) = r := ⟨_, rfl⟩
  rw [hr]
  have HR := Lib.hid hr
  clear e hcut hsz hr hb
  clear q3 q4 q5 q6 q7
  go_enter Tryz.func184, Tryz.ntmps184
  go_wp2_with fail
  have hS0 : True := trivial
  go_region_held3 (fun _ => True) (first | trivial) (first | (go_at_call 247; refine (KN.out _).mono ?_; rintro e w7 ⟨rfl, rfl⟩))
  by_cases h0 : z < 0
  · have hrr := HR.out
    rw [if_neg (by unfold inB; simp; omega)] at hrr
    subst hrr
    go_wp2
    go_ret
    exact ⟨rfl, (Below.refl _ _).drew⟩
  · by_cases h9 : 1000 < z
    · have hrr := HR.out
      rw [if_neg (by unfold inB; simp; omega)] at hrr
      subst hrr
      go_wp2
      go_ret
      exact ⟨rfl, (Below.refl _ _).drew⟩
    · have hrr := HR.out
      rw [if_pos (by unfold inB; simp; omega)] at hrr
      subst hrr
      go_wp2
      go_ret
      exact ⟨rfl, (Below.refl _ _).drew⟩
/-- a guess is handed back -/
def GuessRes (w : World) (q : Pr) (e : Ending) (w' : World) : Prop :=
  e = .returned (.agg #[.int .i64 q.kind, .string q.sender, .string q.goal, .int .i64 q.shown, .string q.status, .int .i64 q.prio, .slice none 0 0]) ∧ Below w.heap.size w w'
theorem nm_no {s t : ByteArray} {L : List UInt8} (hL : t.toList = L) (h : s ≠ t) : (s.toList == L) = false := by
  rw [← hL]
  exact str_ne h
theorem nm_yes {s t : ByteArray} {L : List UInt8} (hL : t.toList = L) (h : s = t) : (s.toList == L) = true := by
  rw [h, hL]
  simp
theorem val_size {l : List It} (hc : treeCode l = 0) {i : Nat} (hi : i < l.length) (nm : ByteArray) : (valT (valueL (l.getD i dIt).attrs nm)).size ≤ 60 := by
  unfold valueL
  cases hf : (l.getD i dIt).attrs.find? (fun x => x.name.toList == nm.toList) with
  | none => exact Nat.zero_le _
  | some y =>
    obtain ⟨j, hj, rfl⟩ := List.getElem_of_mem (List.mem_of_find?_eq_some hf)
    have := (atts_size hc hi).2 j hj
    rw [List.getD_eq_getElem?_getD, List.getElem?_eq_getElem hj] at this
    exact this

set_option maxRecDepth 100000 in
set_option maxHeartbeats 6400000 in
theorem l8Guess_any (a : Option Addr) (n c : Nat) (l : List It) (w : World) (hc : treeCode l = 0) (h : ItsAt w a n c l) :
    Calls Tryz.prog 105 #[.slice a n c] w (GuessRes w (guessM l)) := by
  have hR := rises_of hc
  have hlen := h.len
  have hn1 : 0 < n := by have := hR.some; omega
  have hn40 : n ≤ 40 := by have := hR.few; omega
  have KT := Lib.hid (fun W (hb : Below w.heap.size w W) p (hp : p < n) => specText_any a n c p l W (by omega) (fun i hi => by have := text_le hc (i := i) (by omega); omega) hp (h.below hb))
  obtain ⟨b, o, rfl, hat⟩ := h.row.resolve_left (by omega)
  have hbw : b < w.heap.size := (hat 0 hn1).lt
  have HAT := Lib.hid (fun W (hb : Below w.heap.size w W) i (hi : i < n) => (hat i hi).below hb)
  have KV := Lib.hid (fun W (hb : Below w.heap.size w W) i (hi : i < n) name => specValue_any b (o + i * 5) (l.getD i dIt) name W ((hat i hi).below hb))
  have HVS := Lib.hid (fun i (hi : i < n) nm => val_size hc (i := i) (by omega) nm)
  obtain ⟨wR, hwR⟩ : ∃ wR, w.alloc (.cells #[.int .i64 0, .string ⟨#[]⟩, .string ⟨#[]⟩, .int .i64 0, .string ⟨#[]⟩, .int .i64 0, .slice none 0 0] 26) = wR := ⟨_, rfl⟩
  have HRB : Hid (Below w.heap.size w wR) := Lib.hid (by rw [← hwR]; exact below1 _ _)
  have hwl : w.heap.size < wR.heap.size := by rw [← hwR]; simp
  have HBX : Hid (Box7 wR w.heap.size) := Lib.hid (by
    rw [← hwR]
    refine ⟨fun i hi => ?_, fun i => by simp⟩
    match i, hi with
    | 0, _ => exact ⟨.int .i64 0, by simp⟩
    | 1, _ => exact ⟨.string ⟨#[]⟩, by simp⟩
    | 2, _ => exact ⟨.string ⟨#[]⟩, by simp⟩
    | 3, _ => exact ⟨.int .i64 0, by simp⟩
    | 4, _ => exact ⟨.string ⟨#[]⟩, by simp⟩
    | 5, _ => exact ⟨.int .i64 0, by simp⟩
    | 6, _ => exact ⟨.slice none 0 0, by simp⟩)
  have HP0 : Hid (PrMut wR (wR.alloc (.cells #[.int .i64 0, .string ⟨#[]⟩, .string ⟨#[]⟩, .int .i64 0, .string ⟨#[]⟩, .int .i64 0, .slice none 0 0] 26)) wR.heap.size dPr none 0 0) := Lib.hid (PrMut.new wR wR (Below.refl _ _) 26 dPr none 0 0)
  obtain ⟨pb, hpb⟩ : ∃ pb, wR.heap.size = pb := ⟨_, rfl⟩
  rw [hpb] at HP0
  have hwl2 : w.heap.size < pb := by omega
  have HUP : Hid (∀ k, upM l (k + 1) = stepM l k (upM l k)) := Lib.hid fun k => rfl
  have HS0 : Hid (upM l 0 = { dPr with sender := behind5 (valT (valueL (l.getD 0 dIt).attrs entityNm)) }) := Lib.hid rfl
  have HG : Hid (guessM l = upM l n) := Lib.hid (by unfold guessM; rw [hlen])
  obtain ⟨gg, hgg⟩ : ∃ gg, guessM l = gg := ⟨_, rfl⟩
  rw [hgg] at HG ⊢
  have hf0 : (0 : Int) < (n : Int) := by omega
  unfold GuessRes
  clear h hc hR hat hlen hgg
  have hat0 := HAT.out _ (HRB.out.trans ((below1 wR (.cells #[.int .i64 0, .string ⟨#[]⟩, .string ⟨#[]⟩, .int .i64 0, .string ⟨#[]⟩, .int .i64 0, .slice none 0 0] 26)).mono HRB.out.size)) 0 hn1
  have KV0 := Lib.hid (KV.out _ (HRB.out.trans ((below1 wR (.cells #[.int .i64 0, .string ⟨#[]⟩, .string ⟨#[]⟩, .int .i64 0, .string ⟨#[]⟩, .int .i64 0, .slice none 0 0] 26)).mono HRB.out.size)) 0 hn1 entityNm)
  have HV0 := Lib.hid (HVS.out 0 hn1 entityNm)
  clear hat0
  unfold entityNm at KV0 HV0 HS0
  generalize valT (valueL (l.getD 0 dIt).attrs ⟨#[101, 110, 116, 105, 116, 121]⟩) = ent at KV0 HV0 HS0
  rw [Nat.zero_mul, Nat.add_zero] at KV0
  go_enter Tryz.func105, Tryz.ntmps105
  go_wp2_with fail
  refine KV0.out.mono ?_
  rintro e w1 ⟨rfl, rfl⟩
  clear KV0
  generalize wR.alloc (.cells #[.int .i64 0, .string ⟨#[]⟩, .string ⟨#[]⟩, .int .i64 0, .string ⟨#[]⟩, .int .i64 0, .slice none 0 0] 26) = w1 at HP0 ⊢
  have z1 := HP0.out.is.c1
  have y1 := HP0.out.fz 1
  by_cases h5 : 5 < ent.size
  · have q5 : (5 : Int) < (ent.size : Int) := by omega
    have q6 : (5 : Int) ≤ (ent.size : Int) := by omega
    have HP1 : Hid (PrMut wR (w1.setCell ⟨pb, 1, none⟩ (.string (ent.extract 5 ent.size))) pb (upM l 0) none 0 0) := Lib.hid (by
      rw [HS0.out]
      unfold behind5
      rw [if_pos h5]
      exact HP0.out.setSender _)
    clear h5 HS0 hpb
    go_wp2
    clear z1 y1 HP0 q5 q6
    go_loopw [26] (fun i wr => ∃ k : Nat, k ≤ n ∧ i = .int .i64 (k : Int) ∧ PrMut wR wr pb (upM l k) none 0 0) (fun i _ => n - (intOf i).toNat)
    case atStart => exact ⟨0, Nat.zero_le _, rfl, HP1.out⟩
    case round =>
      obtain ⟨k, hk, rfl, hq⟩ := hrel
      have HQ := Lib.hid hq
      clear hq HP1
      by_cases hlt : k < n
      · have hbr : Below w.heap.size w wr := HRB.out.trans (HQ.out.below.mono HRB.out.size)
        have KTk := Lib.hid (KT.out wr hbr k hlt)
        have HU0 := Lib.hid (HUP.out k)
        unfold stepM at HU0
        have hsz := HVS.out k hlt prioKey
        have q0 : (k : Int) < (n : Int) := by omega
        have c3 := (HAT.out wr hbr k hlt).c3
        have HKV := Lib.hid (fun W (hW : Below wr.heap.size wr W) => KV.out W (hbr.trans (hW.mono hbr.size)) k hlt prioKey)
        have hbwr : b < wr.heap.size := World.block_lt_of_cell? _ _ c3
        clear hbr
        obtain ⟨q1, hq1⟩ : ∃ q1, upM l (k + 1) = q1 := ⟨_, rfl⟩
        rw [hq1] at HU0
        have HQ1 := Lib.hid hq1
        clear hq1
        generalize upM l k = q at HQ HU0
        generalize txtT (textL l k) = tt at KTk HU0
        generalize l.getD k dIt = y at HU0 hsz c3 HKV
        obtain ⟨yd, yt, ys, yn, ya⟩ := y
        dsimp only at HU0 hsz c3 HKV
        generalize valT (valueL ya prioKey) = pv at HU0 hsz HKV
        go_wp2_with fail
        refine KTk.out.mono ?_
        rintro e w3 ⟨rfl, nd, rfl⟩
        have hbn : Below wr.heap.size wr (wr.drewN nd) := below_drewN (Below.refl _ _) nd
        have HQ2 := Lib.hid (HQ.out.keep hbn)
        have c3 := (hbn.cell (p := ⟨b, o + k * 5 + 3, none⟩) hbwr).trans c3
        have HBN := Lib.hid hbn
        have hbw3 : b < (wr.drewN nd).heap.size := hbwr
        clear HQ hbn KTk
        generalize wr.drewN nd = w3 at HQ2 HBN c3 hbw3 ⊢
        by_cases n_basic : yn = basicNm
        case pos =>
          have g_basic : (yn.toList == [98, 97, 115, 105, 99]) = true := nm_yes (by rw [ByteArray.toList_eq]; rfl) n_basic
          by_cases t1 : tt = closedT
          · have g2 : (tt.toList == [99, 108, 111, 115, 101, 100]) = true := nm_yes (by rw [ByteArray.toList_eq]; rfl) t1
            have HU : Hid (q1 = { q with kind := 1 }) := Lib.hid (by rw [HU0.out, if_pos n_basic, if_pos t1])
            clear t1 n_basic HKV
            have z := HQ2.out.is.c0
            have y := HQ2.out.fz 0
            go_wp2
            go_roundw
            case rel => exact ⟨k + 1, by omega, by go_num, by rw [HQ1.out, HU.out]; exact HQ2.out.setKind 1⟩
            case measure => simp [intOf]; omega
          · have g2 : (tt.toList == [99, 108, 111, 115, 101, 100]) = false := nm_no (by rw [ByteArray.toList_eq]; rfl) t1
            have HU : Hid (q1 = q) := Lib.hid (by rw [HU0.out, if_pos n_basic, if_neg t1])
            clear t1 n_basic HKV
            go_wp2
            go_roundw
            case rel => exact ⟨k + 1, by omega, by go_num, by rw [HQ1.out, HU.out]; exact HQ2.out⟩
            case measure => simp [intOf]; omega
        have g_basic : (yn.toList == [98, 97, 115, 105, 99]) = false := nm_no (by rw [ByteArray.toList_eq]; rfl) n_basic
        by_cases n_away : yn = awayNm
        case pos =>
          have g_away : (yn.toList == [97, 119, 97, 121]) = true := nm_yes (by rw [ByteArray.toList_eq]; rfl) n_away
          have HU : Hid (q1 = { q with shown := 1 }) := Lib.hid (by rw [HU0.out, if_neg n_basic, if_pos n_away])
          clear n_basic n_away HKV
          have z := HQ2.out.is.c3
          have y := HQ2.out.fz 3
          go_wp2
          go_roundw
          case rel => exact ⟨k + 1, by omega, by go_num, by rw [HQ1.out, HU.out]; exact HQ2.out.setShown 1⟩
          case measure => simp [intOf]; omega
        have g_away : (yn.toList == [97, 119, 97, 121]) = false := nm_no (by rw [ByteArray.toList_eq]; rfl) n_away
        by_cases n_busy : yn = busyNm
        case pos =>
          have g_busy : (yn.toList == [98, 117, 115, 121]) = true := nm_yes (by rw [ByteArray.toList_eq]; rfl) n_busy
          have HU : Hid (q1 = { q with shown := 3 }) := Lib.hid (by rw [HU0.out, if_neg n_basic, if_neg n_away, if_pos n_busy])
          clear n_basic n_away n_busy HKV
          have z := HQ2.out.is.c3
          have y := HQ2.out.fz 3
          go_wp2
          go_roundw
          case rel => exact ⟨k + 1, by omega, by go_num, by rw [HQ1.out, HU.out]; exact HQ2.out.setShown 3⟩
          case measure => simp [intOf]; omega
        have g_busy : (yn.toList == [98, 117, 115, 121]) = false := nm_no (by rw [ByteArray.toList_eq]; rfl) n_busy
        by_cases n_note : yn = noteNm
        case pos =>
          have g_note : (yn.toList == [110, 111, 116, 101]) = true := nm_yes (by rw [ByteArray.toList_eq]; rfl) n_note
          have HU : Hid (q1 = { q with status := tt }) := Lib.hid (by rw [HU0.out, if_neg n_basic, if_neg n_away, if_neg n_busy, if_pos n_note])
          clear n_basic n_away n_busy n_note HKV
          have z := HQ2.out.is.c4
          have y := HQ2.out.fz 4
          go_wp2
          go_roundw
          case rel => exact ⟨k + 1, by omega, by go_num, by rw [HQ1.out, HU.out]; exact HQ2.out.setStatus tt⟩
          case measure => simp [intOf]; omega
        have g_note : (yn.toList == [110, 111, 116, 101]) = false := nm_no (by rw [ByteArray.toList_eq]; rfl) n_note
        by_cases n_cont : yn = contNm
        case pos =>
          have g_cont : (yn.toList == [99, 111, 110, 116, 97, 99, 116]) = true := nm_yes (by rw [ByteArray.toList_eq]; rfl) n_cont
          have HU : Hid (q1 = { q with prio := prioVal (read8 pv) }) := Lib.hid (by rw [HU0.out, if_neg n_basic, if_neg n_away, if_neg n_busy, if_neg n_note, if_pos n_cont])
          clear n_basic n_away n_busy n_note n_cont
          unfold prioKey at HKV
          go_wp2_with fail
          refine (HKV.out _ HBN.out).mono ?_
          rintro e w4 ⟨rfl, rfl⟩
          go_wp2_with fail
          refine (l8Read_any pv (by unfold maxLen; omega) _).mono ?_
          rintro e w5 ⟨rfl, hb5⟩
          have HQ5 := Lib.hid (HQ2.out.keep hb5)
          clear hb5 HQ2 HBN c3 HKV
          go_wp2_with fail
          refine (specPriorityOf_any (read8 pv) _).mono ?_
          rintro e w6 ⟨rfl, hb6⟩
          have HQ2 := Lib.hid (HQ5.out.keep hb6)
          have fi := fun W => field_ival (prioCode (read8 pv)) (prioVal (read8 pv)) W
          clear hb6 HQ5
          have z := HQ2.out.is.c5
          have y := HQ2.out.fz 5
          go_wp2
          go_roundw
          case rel => exact ⟨k + 1, by omega, by go_num, by rw [HQ1.out, HU.out]; exact HQ2.out.setPrio _⟩
          case measure => simp [intOf]; omega
        have g_cont : (yn.toList == [99, 111, 110, 116, 97, 99, 116]) = false := nm_no (by rw [ByteArray.toList_eq]; rfl) n_cont
        have HU : Hid (q1 = q) := Lib.hid (by rw [HU0.out, if_neg n_basic, if_neg n_away, if_neg n_busy, if_neg n_note, if_neg n_cont])
        clear n_basic n_away n_busy n_note n_cont HKV
        go_wp2
        go_roundw
        case rel => exact ⟨k + 1, by omega, by go_num, by rw [HQ1.out, HU.out]; exact HQ2.out⟩
        case measure => simp [intOf]; omega
      · obtain rfl : k = n := by omega
        have hbx := HBX.out.below hwl HQ.out.below
        obtain ⟨v0, b0⟩ := hbx.c 0 (by omega)
        obtain ⟨v1, b1⟩ := hbx.c 1 (by omega)
        obtain ⟨v2, b2⟩ := hbx.c 2 (by omega)
        obtain ⟨v3, b3⟩ := hbx.c 3 (by omega)
        obtain ⟨v4, b4⟩ := hbx.c 4 (by omega)
        obtain ⟨v5, b5⟩ := hbx.c 5 (by omega)
        obtain ⟨v6, b6⟩ := hbx.c 6 (by omega)
        have f0 := hbx.f 0
        have f1 := hbx.f 1
        have f2 := hbx.f 2
        have f3 := hbx.f 3
        have f4 := hbx.f 4
        have f5 := hbx.f 5
        have f6 := hbx.f 6
        have hgg := HG.out
        have HQ' := HQ.out
        rw [← hgg] at HQ'
        obtain ⟨qk, qf, qt, qs, qu, qp, qm⟩ := gg
        have z0 := HQ'.is.c0
        have z1 := HQ'.is.c1
        have z2 := HQ'.is.c2
        have z3 := HQ'.is.c3
        have z4 := HQ'.is.c4
        have z5 := HQ'.is.c5
        have z6 := HQ'.is.c6
        have zl := HQ'.is.lt
        have HB9 := Lib.hid (HRB.out.trans (HQ'.below.mono HRB.out.size))
        dsimp only at z0 z1 z2 z3 z4 z5 z6
        clear hgg HQ' HQ HG
        go_wp2
        exact bodyPost_ret (v := .agg #[.int .i64 qk, .string qf, .string qt, .int .i64 qs, .string qu, .int .i64 qp, .slice none 0 0]) (by simp [results, Tryz.results105, go_sem, b0, b1, b2, b3, b4, b5, b6]) rfl ⟨rfl, (((((((HB9.out.setCell (p := ⟨w.heap.size, 0, none⟩) (Nat.le_refl _) _).setCell (p := ⟨w.heap.size, 1, none⟩) (Nat.le_refl _) _).setCell (p := ⟨w.heap.size, 2, none⟩) (Nat.le_refl _) _).setCell (p := ⟨w.heap.size, 3, none⟩) (Nat.le_refl _) _).setCell (p := ⟨w.heap.size, 4, none⟩) (Nat.le_refl _) _).setCell (p := ⟨w.heap.size, 5, none⟩) (Nat.le_refl _) _).setCell (p := ⟨w.heap.size, 6, none⟩) (Nat.le_refl _) _)⟩
  · have q5 : ¬ (5 : Int) < (ent.size : Int) := by omega
    have HP1 : Hid (PrMut wR w1 pb (upM l 0) none 0 0) := Lib.hid (by
      rw [HS0.out]
      unfold behind5
      rw [if_neg h5]
      exact HP0.out)
    clear h5 HS0 hpb
    go_wp2
    clear z1 y1 HP0 q5
    go_loopw [26] (fun i wr => ∃ k : Nat, k ≤ n ∧ i = .int .i64 (k : Int) ∧ PrMut wR wr pb (upM l k) none 0 0) (fun i _ => n - (intOf i).toNat)
    case atStart => exact ⟨0, Nat.zero_le _, rfl, HP1.out⟩
    case round =>
      obtain ⟨k, hk, rfl, hq⟩ := hrel
      have HQ := Lib.hid hq
      clear hq HP1
      by_cases hlt : k < n
      · have hbr : Below w.heap.size w wr := HRB.out.trans (HQ.out.below.mono HRB.out.size)
        have KTk := Lib.hid (KT.out wr hbr k hlt)
        have HU0 := Lib.hid (HUP.out k)
        unfold stepM at HU0
        have hsz := HVS.out k hlt prioKey
        have q0 : (k : Int) < (n : Int) := by omega
        have c3 := (HAT.out wr hbr k hlt).c3
        have HKV := Lib.hid (fun W (hW : Below wr.heap.size wr W) => KV.out W (hbr.trans (hW.mono hbr.size)) k hlt prioKey)
        have hbwr : b < wr.heap.size := World.block_lt_of_cell? _ _ c3
        clear hbr
        obtain ⟨q1, hq1⟩ : ∃ q1, upM l (k + 1) = q1 := ⟨_, rfl⟩
        rw [hq1] at HU0
        have HQ1 := Lib.hid hq1
        clear hq1
        generalize upM l k = q at HQ HU0
        generalize txtT (textL l k) = tt at KTk HU0
        generalize l.getD k dIt = y at HU0 hsz c3 HKV
        obtain ⟨yd, yt, ys, yn, ya⟩ := y
        dsimp only at HU0 hsz c3 HKV
        generalize valT (valueL ya prioKey) = pv at HU0 hsz HKV
        go_wp2_with fail
        refine KTk.out.mono ?_
        rintro e w3 ⟨rfl, nd, rfl⟩
        have hbn : Below wr.heap.size wr (wr.drewN nd) := below_drewN (Below.refl _ _) nd
        have HQ2 := Lib.hid (HQ.out.keep hbn)
        have c3 := (hbn.cell (p := ⟨b, o + k * 5 + 3, none⟩) hbwr).trans c3
        have HBN := Lib.hid hbn
        have hbw3 : b < (wr.drewN nd).heap.size := hbwr
        clear HQ hbn KTk
        generalize wr.drewN nd = w3 at HQ2 HBN c3 hbw3 ⊢
        by_cases n_basic : yn = basicNm
        case pos =>
          have g_basic : (yn.toList == [98, 97, 115, 105, 99]) = true := nm_yes (by rw [ByteArray.toList_eq]; rfl) n_basic
          by_cases t1 : tt = closedT
          · have g2 : (tt.toList == [99, 108, 111, 115, 101, 100]) = true := nm_yes (by rw [ByteArray.toList_eq]; rfl) t1
            have HU : Hid (q1 = { q with kind := 1 }) := Lib.hid (by rw [HU0.out, if_pos n_basic, if_pos t1])
            clear t1 n_basic HKV
            have z := HQ2.out.is.c0
            have y := HQ2.out.fz 0
            go_wp2
            go_roundw
            case rel => exact ⟨k + 1, by omega, by go_num, by rw [HQ1.out, HU.out]; exact HQ2.out.setKind 1⟩
            case measure => simp [intOf]; omega
          · have g2 : (tt.toList == [99, 108, 111, 115, 101, 100]) = false := nm_no (by rw [ByteArray.toList_eq]; rfl) t1
            have HU : Hid (q1 = q) := Lib.hid (by rw [HU0.out, if_pos n_basic, if_neg t1])
            clear t1 n_basic HKV
            go_wp2
            go_roundw
            case rel => exact ⟨k + 1, by omega, by go_num, by rw [HQ1.out, HU.out]; exact HQ2.out⟩
            case measure => simp [intOf]; omega
        have g_basic : (yn.toList == [98, 97, 115, 105, 99]) = false := nm_no (by rw [ByteArray.toList_eq]; rfl) n_basic
        by_cases n_away : yn = awayNm
        case pos =>
          have g_away : (yn.toList == [97, 119, 97, 121]) = true := nm_yes (by rw [ByteArray.toList_eq]; rfl) n_away
          have HU : Hid (q1 = { q with shown := 1 }) := Lib.hid (by rw [HU0.out, if_neg n_basic, if_pos n_away])
          clear n_basic n_away HKV
          have z := HQ2.out.is.c3
          have y := HQ2.out.fz 3
          go_wp2
          go_roundw
          case rel => exact ⟨k + 1, by omega, by go_num, by rw [HQ1.out, HU.out]; exact HQ2.out.setShown 1⟩
          case measure => simp [intOf]; omega
        have g_away : (yn.toList == [97, 119, 97, 121]) = false := nm_no (by rw [ByteArray.toList_eq]; rfl) n_away
        by_cases n_busy : yn = busyNm
        case pos =>
          have g_busy : (yn.toList == [98, 117, 115, 121]) = true := nm_yes (by rw [ByteArray.toList_eq]; rfl) n_busy
          have HU : Hid (q1 = { q with shown := 3 }) := Lib.hid (by rw [HU0.out, if_neg n_basic, if_neg n_away, if_pos n_busy])
          clear n_basic n_away n_busy HKV
          have z := HQ2.out.is.c3
          have y := HQ2.out.fz 3
          go_wp2
          go_roundw
          case rel => exact ⟨k + 1, by omega, by go_num, by rw [HQ1.out, HU.out]; exact HQ2.out.setShown 3⟩
          case measure => simp [intOf]; omega
        have g_busy : (yn.toList == [98, 117, 115, 121]) = false := nm_no (by rw [ByteArray.toList_eq]; rfl) n_busy
        by_cases n_note : yn = noteNm
        case pos =>
          have g_note : (yn.toList == [110, 111, 116, 101]) = true := nm_yes (by rw [ByteArray.toList_eq]; rfl) n_note
          have HU : Hid (q1 = { q with status := tt }) := Lib.hid (by rw [HU0.out, if_neg n_basic, if_neg n_away, if_neg n_busy, if_pos n_note])
          clear n_basic n_away n_busy n_note HKV
          have z := HQ2.out.is.c4
          have y := HQ2.out.fz 4
          go_wp2
          go_roundw
          case rel => exact ⟨k + 1, by omega, by go_num, by rw [HQ1.out, HU.out]; exact HQ2.out.setStatus tt⟩
          case measure => simp [intOf]; omega
        have g_note : (yn.toList == [110, 111, 116, 101]) = false := nm_no (by rw [ByteArray.toList_eq]; rfl) n_note
        by_cases n_cont : yn = contNm
        case pos =>
          have g_cont : (yn.toList == [99, 111, 110, 116, 97, 99, 116]) = true := nm_yes (by rw [ByteArray.toList_eq]; rfl) n_cont
          have HU : Hid (q1 = { q with prio := prioVal (read8 pv) }) := Lib.hid (by rw [HU0.out, if_neg n_basic, if_neg n_away, if_neg n_busy, if_neg n_note, if_pos n_cont])
          clear n_basic n_away n_busy n_note n_cont
          unfold prioKey at HKV
          go_wp2_with fail
          refine (HKV.out _ HBN.out).mono ?_
          rintro e w4 ⟨rfl, rfl⟩
          go_wp2_with fail
          refine (l8Read_any pv (by unfold maxLen; omega) _).mono ?_
          rintro e w5 ⟨rfl, hb5⟩
          have HQ5 := Lib.hid (HQ2.out.keep hb5)
          clear hb5 HQ2 HBN c3 HKV
          go_wp2_with fail
          refine (specPriorityOf_any (read8 pv) _).mono ?_
          rintro e w6 ⟨rfl, hb6⟩
          have HQ2 := Lib.hid (HQ5.out.keep hb6)
          have fi := fun W => field_ival (prioCode (read8 pv)) (prioVal (read8 pv)) W
          clear hb6 HQ5
          have z := HQ2.out.is.c5
          have y := HQ2.out.fz 5
          go_wp2
          go_roundw
          case rel => exact ⟨k + 1, by omega, by go_num, by rw [HQ1.out, HU.out]; exact HQ2.out.setPrio _⟩
          case measure => simp [intOf]; omega
        have g_cont : (yn.toList == [99, 111, 110, 116, 97, 99, 116]) = false := nm_no (by rw [ByteArray.toList_eq]; rfl) n_cont
        have HU : Hid (q1 = q) := Lib.hid (by rw [HU0.out, if_neg n_basic, if_neg n_away, if_neg n_busy, if_neg n_note, if_neg n_cont])
        clear n_basic n_away n_busy n_note n_cont HKV
        go_wp2
        go_roundw
        case rel => exact ⟨k + 1, by omega, by go_num, by rw [HQ1.out, HU.out]; exact HQ2.out⟩
        case measure => simp [intOf]; omega
      · obtain rfl : k = n := by omega
        have hbx := HBX.out.below hwl HQ.out.below
        obtain ⟨v0, b0⟩ := hbx.c 0 (by omega)
        obtain ⟨v1, b1⟩ := hbx.c 1 (by omega)
        obtain ⟨v2, b2⟩ := hbx.c 2 (by omega)
        obtain ⟨v3, b3⟩ := hbx.c 3 (by omega)
        obtain ⟨v4, b4⟩ := hbx.c 4 (by omega)
        obtain ⟨v5, b5⟩ := hbx.c 5 (by omega)
        obtain ⟨v6, b6⟩ := hbx.c 6 (by omega)
        have f0 := hbx.f 0
        have f1 := hbx.f 1
        have f2 := hbx.f 2
        have f3 := hbx.f 3
        have f4 := hbx.f 4
        have f5 := hbx.f 5
        have f6 := hbx.f 6
        have hgg := HG.out
        have HQ' := HQ.out
        rw [← hgg] at HQ'
        obtain ⟨qk, qf, qt, qs, qu, qp, qm⟩ := gg
        have z0 := HQ'.is.c0
        have z1 := HQ'.is.c1
        have z2 := HQ'.is.c2
        have z3 := HQ'.is.c3
        have z4 := HQ'.is.c4
        have z5 := HQ'.is.c5
        have z6 := HQ'.is.c6
        have zl := HQ'.is.lt
        have HB9 := Lib.hid (HRB.out.trans (HQ'.below.mono HRB.out.size))
        dsimp only at z0 z1 z2 z3 z4 z5 z6
        clear hgg HQ' HQ HG
        go_wp2
        exact bodyPost_ret (v := .agg #[.int .i64 qk, .string qf, .string qt, .int .i64 qs, .string qu, .int .i64 qp, .slice none 0 0]) (by simp [results, Tryz.results105, go_sem, b0, b1, b2, b3, b4, b5, b6]) rfl ⟨rfl, (((((((HB9.out.setCell (p := ⟨w.heap.size, 0, none⟩) (Nat.le_refl _) _).setCell (p := ⟨w.heap.size, 1, none⟩) (Nat.le_refl _) _).setCell (p := ⟨w.heap.size, 2, none⟩) (Nat.le_refl _) _).setCell (p := ⟨w.heap.size, 3, none⟩) (Nat.le_refl _) _).setCell (p := ⟨w.heap.size, 4, none⟩) (Nat.le_refl _) _).setCell (p := ⟨w.heap.size, 5, none⟩) (Nat.le_refl _) _).setCell (p := ⟨w.heap.size, 6, none⟩) (Nat.le_refl _) _)⟩
end Go.Proofs.YticpebpicdboaaaGreatDoor

/- What a pidf's tree says, in plain words: both functions' answers are the same. -/
namespace Go.Proofs.YticpebpicdboaaaGreatDoor
open Go.ChangeShapes Go.WideShapes Go.ChangeAt Go.RowKit
set_option linter.unusedVariables false
set_option linter.unusedSimpArgs false

/-- g is what the items of l tell as a pidf -/
def Tells (l : List It) (g : Pr) : Prop := projCode g = 0 ∧ proj g = g ∧ pidfL g = l
open Classical in
noncomputable def pofCode (l : List It) : Int := if treeCode l ≠ 0 then treeCode l else if Tells l (guessM l) then 0 else 1
open Classical in
noncomputable def pofVal (l : List It) : Pr := if treeCode l ≠ 0 then dPr else if Tells l (guessM l) then guessM l else dPr
theorem proj_twice (p : Pr) : proj (proj p) = proj p := by
  unfold proj
  dsimp only
  have e1 : sharedS (sharedS p.shown) = sharedS p.shown := by
    unfold sharedS
    by_cases h2 : p.shown = 2
    · rw [if_pos h2]; rfl
    · rw [if_neg h2]
      by_cases h4 : p.shown = 4
      · rw [if_pos h4]; rfl
      · rw [if_neg h4, if_neg h2, if_neg h4]
  have e2 : prioS (prioS p.prio) = prioS p.prio := by
    unfold prioS
    by_cases h : 0 < p.prio
    · rw [if_pos h, if_pos h]
    · rw [if_neg h]; rfl
  rw [e1, e2]
theorem zero_code : projCode zeroPr = 7 := by decide +kernel
/-- what the program asks of its guess is what the model asks of its own -/
theorem told_same {l : List It} (hc : treeCode l = 0) : (pidfT (projT (guessP l)) = l ↔ Tells l (guessM l)) ∧ (Tells l (guessM l) → projT (guessP l) = guessM l) := by
  have hR := rises_of hc
  have hne : l ≠ [] := fun e => by have := hR.some; rw [e] at this; simp at this
  have hM : ∀ q, Tells l q → guessM l = q ∧ guessP l = q := fun q ⟨h1, h2, h3⟩ => by
    have := guess_right (ownPr_of h1 h2) (by rw [h3]; exact hR)
    rwa [h3] at this
  have hT : ∀ q, Tells l q → projT q = q := fun q ⟨h1, h2, _⟩ => by unfold projT; rw [if_pos h1, h2]
  refine ⟨⟨fun h => ?_, fun h => ?_⟩, fun h => ?_⟩
  · obtain ⟨t, ht⟩ : ∃ t, projT (guessP l) = t := ⟨_, rfl⟩
    rw [ht] at h
    have hct : projCode t = 0 := by
      rcases Decidable.em (projCode t = 0) with h0 | h0
      · exact h0
      · unfold pidfT at h
        rw [if_neg h0] at h
        exact absurd h.symm hne
    have hpt : proj t = t := by
      rw [← ht]
      unfold projT
      by_cases h0 : projCode (guessP l) = 0
      · rw [if_pos h0]; exact proj_twice _
      · rw [if_neg h0]
        exfalso
        unfold projT at ht
        rw [if_neg h0] at ht
        rw [← ht, zero_code] at hct
        cases hct
    have hl : pidfL t = l := by
      unfold pidfT at h
      rw [if_pos hct, hpt] at h
      exact h
    have hTl : Tells l t := ⟨hct, hpt, hl⟩
    rw [(hM t hTl).1]
    exact hTl
  · have hg := (hM _ h).2
    rw [hg, hT _ h]
    unfold pidfT
    rw [if_pos h.1, h.2.1]
    exact h.2.2
  · rw [(hM _ h).2]
    exact hT _ h
/-- a guess is small -/
theorem behind5_le {s : ByteArray} (h : s.size ≤ 60) : (behind5 s).size ≤ 60 := by
  unfold behind5
  split
  · rw [ByteArray.size_extract]; omega
  · exact Nat.zero_le _
theorem off5_le {s : ByteArray} (h : s.size ≤ 60) : (off5 s).size ≤ 60 := by
  have e : (off5 s).size = (Lib.trimPrefix s.data.toList presP.data.toList).length := by
    unfold off5
    show (Array.size _) = _
    rw [List.size_toArray]
  rw [e]
  unfold Lib.trimPrefix
  have hl : s.data.toList.length = s.size := by simp
  split
  · rw [List.length_drop]; omega
  · omega
def GuessOk (q : Pr) : Prop := ShortPr q ∧ q.goal = ByteArray.empty ∧ q.more = []
theorem upM_ok {l : List It} (hc : treeCode l = 0) : ∀ k, k ≤ l.length → GuessOk (upM l k)
  | 0, _ => ⟨⟨behind5_le (val_size hc (by have := (rises_of hc).some; omega) _), Nat.zero_le _, Nat.zero_le _⟩, rfl, rfl⟩
  | k + 1, h => by
    have ih := upM_ok hc k (by omega)
    have ht := txtT_le hc (i := k) (by omega)
    show GuessOk (stepM l k (upM l k))
    obtain ⟨⟨i1, i2, i3⟩, i4, i5⟩ := ih
    unfold stepM
    split
    · split
      · exact ⟨⟨i1, i2, i3⟩, i4, i5⟩
      · exact ⟨⟨i1, i2, i3⟩, i4, i5⟩
    · split
      · exact ⟨⟨i1, i2, i3⟩, i4, i5⟩
      · split
        · exact ⟨⟨i1, i2, i3⟩, i4, i5⟩
        · split
          · exact ⟨⟨i1, i2, ht⟩, i4, i5⟩
          · split <;> exact ⟨⟨i1, i2, i3⟩, i4, i5⟩
theorem upP_ok {l : List It} (hc : treeCode l = 0) : ∀ k, k ≤ l.length → GuessOk (upP l k)
  | 0, _ => ⟨⟨off5_le (val_size hc (by have := (rises_of hc).some; omega) _), Nat.zero_le _, Nat.zero_le _⟩, rfl, rfl⟩
  | k + 1, h => by
    have ih := upP_ok hc k (by omega)
    have ht := txtT_le hc (i := k) (by omega)
    show GuessOk (stepP l k (upP l k))
    obtain ⟨⟨i1, i2, i3⟩, i4, i5⟩ := ih
    unfold stepP
    split
    · exact ⟨⟨i1, i2, i3⟩, i4, i5⟩
    · split
      · exact ⟨⟨i1, i2, i3⟩, i4, i5⟩
      · split
        · exact ⟨⟨i1, i2, i3⟩, i4, i5⟩
        · split
          · exact ⟨⟨i1, i2, ht⟩, i4, i5⟩
          · exact ⟨⟨i1, i2, i3⟩, i4, i5⟩
theorem GuessOk.small {q : Pr} (h : GuessOk q) : SmallPr q := by
  obtain ⟨⟨h1, h2, h3⟩, _, h5⟩ := h
  refine ⟨⟨by omega, by omega, by omega⟩, ?_⟩
  rw [h5]
  exact ⟨by decide, fun i hi => by simp at hi⟩
theorem guessM_ok {l : List It} (hc : treeCode l = 0) : GuessOk (guessM l) := upM_ok hc _ (Nat.le_refl _)
theorem guessP_ok {l : List It} (hc : treeCode l = 0) : GuessOk (guessP l) := upP_ok hc _ (Nat.min_le_right _ _)
theorem pof_few (l : List It) (hs : ∀ i, (l.getD i dIt).attrs.length ≤ 1048576) : ∀ i, ((pofVal l).more.getD i dIt).attrs.length ≤ 1048576 := by
  intro i
  have e : (pofVal l).more = [] := by
    unfold pofVal
    split
    · rfl
    · rename_i h
      split
      · exact (guessM_ok (by simpa using h)).2.2
      · rfl
  rw [e]
  exact Nat.zero_le _
end Go.Proofs.YticpebpicdboaaaGreatDoor

/- What is read out of a tree is small; the code and the presence of a tree. -/
namespace Go.Proofs.YticpebpicdboaaaGreatDoor
open Go.ChangeShapes Go.WideShapes Go.ChangeAt Go.RowKit
set_option linter.unusedVariables false

theorem moved_all {P : It → Prop} {l : List It} (hP : ∀ i (by_ : Int), i < l.length → -1 ≤ by_ → by_ ≤ 1 → P ⟨(l.getD i dIt).depth + by_, (l.getD i dIt).text, (l.getD i dIt).space, (l.getD i dIt).name, (l.getD i dIt).attrs⟩) {i : Nat} (hi : i < l.length) : ∀ x ∈ movedTo l i (endL l i) (-1), P x := by
  intro x hx
  unfold movedTo at hx
  obtain ⟨j, hj, rfl⟩ := List.mem_map.1 hx
  have hj := List.mem_range.1 hj
  have := (endL_bounds hi).2
  exact hP (i + j) (-1) (by omega) (by decide) (by decide)
theorem moved_few {l : List It} (hR : Rises l) {i : Nat} (hi : i < l.length) : (movedTo l i (endL l i) (-1)).length ≤ 40 := by
  rw [movedTo_length]
  have := (endL_bounds hi).2
  have := hR.few
  omega
/-- what holds of a presence on its way -/
def WayPr (P : It → Prop) (m : Nat) (q : Pr) : Prop := ShortPr q ∧ (∀ x ∈ q.more, P x) ∧ q.more.length ≤ m
theorem kidOne_way {P : It → Prop} {l : List It} (hc : treeCode l = 0) (hP : ∀ i (by_ : Int), i < l.length → -1 ≤ by_ → by_ ≤ 1 → P ⟨(l.getD i dIt).depth + by_, (l.getD i dIt).text, (l.getD i dIt).space, (l.getD i dIt).name, (l.getD i dIt).attrs⟩) {i m : Nat} (hi : i < l.length)
    {s t : List ByteArray × Pr} (h : kidOne l i s = some t) (hw : WayPr P m s.2) : WayPr P (m + 40) t.2 := by
  obtain ⟨h1, h2, h3⟩ := hw
  unfold kidOne at h
  split at h
  · cases h
  · split at h
    · cases h
      refine ⟨⟨h1.s1, h1.s2, h1.s4⟩, fun x hx => ?_, ?_⟩
      · rcases List.mem_append.1 hx with hx | hx
        · exact h2 x hx
        · exact moved_all hP hi x hx
      · show (s.2.more ++ movedTo l i (endL l i) (-1)).length ≤ _
        rw [List.length_append]
        have := moved_few (rises_of hc) hi
        omega
    · split at h
      · cases h
      · cases hq : partP l i s.2 with
        | none => rw [hq] at h; cases h
        | some q =>
          rw [hq] at h
          cases h
          obtain ⟨k1, k2⟩ := partP_short hc hi h1 hq
          refine ⟨k1, fun x hx => h2 x ?_, ?_⟩
          · rw [← k2]; exact hx
          · show q.more.length ≤ _
            rw [k2]
            omega
theorem kidsF_way {P : It → Prop} {l : List It} (hc : treeCode l = 0) (hP : ∀ i (by_ : Int), i < l.length → -1 ≤ by_ → by_ ≤ 1 → P ⟨(l.getD i dIt).depth + by_, (l.getD i dIt).text, (l.getD i dIt).space, (l.getD i dIt).name, (l.getD i dIt).attrs⟩) {ks : List Int} (hk : ∀ j, j < ks.length → (ks.getD j 0).toNat < l.length) :
    ∀ (f j : Nat) (s : List ByteArray × Pr) (q : Pr) (m : Nat), j + f ≤ ks.length → WayPr P m s.2 → kidsF l ks f j s = some q → WayPr P (m + f * 40) q
  | 0, j, s, q, m, hj, hw, h => by
    unfold kidsF at h
    cases h
    exact ⟨hw.1, hw.2.1, by have := hw.2.2; omega⟩
  | f + 1, j, s, q, m, hj, hw, h => by
    unfold kidsF at h
    cases ht : kidOne l (ks.getD j 0).toNat s with
    | none => rw [ht] at h; cases h
    | some t =>
      rw [ht] at h
      have hw2 := kidOne_way hc hP (hk j (by omega)) ht hw
      have := kidsF_way hc hP hk f (j + 1) t q (m + 40) (by omega) hw2 h
      exact ⟨this.1, this.2.1, by have := this.2.2; omega⟩
theorem kidsL_lt {l : List It} (hR : Rises l) : ∀ j, j < (kidsL l 0).length → ((kidsL l 0).getD j 0).toNat < l.length := by
  intro j hj
  have h0 : 0 < l.length := hR.some
  rw [← kids_same hR h0] at hj ⊢
  rw [List.length_map] at hj
  rw [List.getD_eq_getElem?_getD, List.getElem?_map, List.getElem?_eq_getElem hj]
  exact kidsUp_lt (List.getElem_mem hj)
theorem kidsL_few {l : List It} (hR : Rises l) : (kidsL l 0).length ≤ 40 := by
  rw [← kids_same hR (by exact hR.some), List.length_map]
  have := kidsUp_len l l.length 0
  have := hR.few
  omega
theorem read_way {P : It → Prop} {l : List It} (hc : treeCode l = 0) (hP : ∀ i (by_ : Int), i < l.length → -1 ≤ by_ → by_ ≤ 1 → P ⟨(l.getD i dIt).depth + by_, (l.getD i dIt).text, (l.getD i dIt).space, (l.getD i dIt).name, (l.getD i dIt).attrs⟩) {q : Pr} (h : readP l = some q) : WayPr P 1600 q := by
  have hR := rises_of hc
  unfold readP at h
  cases hr : rootP (l.getD 0 dIt) dPr with
  | none => rw [hr] at h; cases h
  | some p =>
    rw [hr] at h
    have h1 := rootP_short hc hR.some hr
    have h2 := rootP_rest hr
    have hw := kidsF_way hc hP (kidsL_lt hR) _ 0 ([], p) q 0 (by omega) ⟨h1, fun x hx => (by rw [show (([], p) : List ByteArray × Pr).2.more = [] from h2] at hx; cases hx), by rw [show (([], p) : List ByteArray × Pr).2.more = [] from h2]; exact Nat.le_refl _⟩ h
    have := kidsL_few hR
    exact ⟨hw.1, hw.2.1, by have := hw.2.2; omega⟩
theorem mem_getD {l : List It} {i : Nat} (h : i < l.length) : l.getD i dIt ∈ l := by
  rw [List.getD_eq_getElem?_getD, List.getElem?_eq_getElem h]
  exact List.getElem_mem h
/-- what is read out of a small tree is small -/
theorem read_small {l : List It} (hc : treeCode l = 0) (hs : SmallIts l) {q : Pr} (h : readP l = some q) : SmallPr q ∧ q.more.length ≤ 1600 ∧ ∀ i, i < q.more.length → (-10 ≤ (q.more.getD i dIt).depth ∧ (q.more.getD i dIt).depth ≤ 10) ∧ SmallIt (q.more.getD i dIt) := by
  have hw := read_way (P := fun x => (-10 ≤ x.depth ∧ x.depth ≤ 10) ∧ SmallIt x) hc (fun i by_ hi h1 h2 => by
    have hb := (rises_of hc).bd i hi
    unfold dp at hb
    exact ⟨⟨by show _ ≤ (l.getD i dIt).depth + by_; omega, by show (l.getD i dIt).depth + by_ ≤ _; omega⟩, hs.2 i hi⟩) h
  have hg := fun i (hi : i < q.more.length) => hw.2.1 _ (mem_getD hi)
  have h1 := hw.1.s1
  have h2 := hw.1.s2
  have h4 := hw.1.s4
  have h5 := hw.2.2
  exact ⟨⟨⟨by omega, by omega, by omega⟩, by omega, fun i hi => (hg i hi).2⟩, h5, hg⟩
/-- the code that a tree is told, and the presence -/
def readCode (l : List It) : Int :=
  if treeCode l ≠ 0 then treeCode l else match readP l with | none => 1 | some q => presCode q
def readVal (l : List It) : Pr :=
  if treeCode l ≠ 0 then dPr else match readP l with | none => dPr | some q => if presCode q ≠ 0 then dPr else q
theorem read_bad {l : List It} (h : treeCode l ≠ 0) : readCode l = treeCode l ∧ readVal l = dPr := by
  unfold readCode readVal
  rw [if_pos h, if_pos h]
  exact ⟨rfl, rfl⟩
theorem read_none {l : List It} (h : treeCode l = 0) (hr : readP l = none) : readCode l = 1 ∧ readVal l = dPr := by
  unfold readCode readVal
  rw [if_neg (by simp [h]), if_neg (by simp [h]), hr]
  exact ⟨rfl, rfl⟩
theorem read_some {l : List It} (h : treeCode l = 0) {q : Pr} (hr : readP l = some q) : readCode l = presCode q ∧ readVal l = if presCode q ≠ 0 then dPr else q := by
  unfold readCode readVal
  rw [if_neg (by simp [h]), if_neg (by simp [h]), hr]
  exact ⟨rfl, rfl⟩
theorem readVal_few (l : List It) (hs : ∀ i, (l.getD i dIt).attrs.length ≤ 1048576) : ∀ i, ((readVal l).more.getD i dIt).attrs.length ≤ 1048576 := by
  intro i
  by_cases h : treeCode l = 0
  · cases hr : readP l with
    | none => rw [(read_none h hr).2]; exact Nat.zero_le _
    | some q =>
      rw [(read_some h hr).2]
      split
      · exact Nat.zero_le _
      · have hw := read_way (P := fun x => x.attrs.length ≤ 1048576) h (fun i by_ hi h1 h2 => hs i) hr
        rcases Nat.lt_or_ge i q.more.length with hi | hi
        · exact hw.2.1 _ (mem_getD hi)
        · rw [List.getD_eq_getElem?_getD, List.getElem?_eq_none hi]; decide
  · rw [(read_bad h).2]; exact Nat.zero_le _
end Go.Proofs.YticpebpicdboaaaGreatDoor
