/- The program's CapsString. -/
import Derived.Test.YtcaknhoaoodbfaaGreatDoorGC18
import Derived.Test.YtcaknhoaoodbfaaGreatDoorGC29
import Derived.Test.YtcaknhoaoodbfaaGreatDoorGC32
import Derived.Test.YtcaknhoaoodbfaaGreatDoorGC13
namespace Go.Proofs.YtcaknhoaoodbfaaGreatDoor
open Go.ChangeShapes Go.WideShapes Go.ChangeAt Go.RowKit
set_option linter.unusedVariables false

theorem lines_owned {w : World} {B n c : Nat} {a : Option Addr} {L : List ByteArray} (hn : n ≤ 1000000) (h : w.ownsRow B 101 1 (.slice a n c) n (L.map Value.string)) : StsAt w a n c L := by
  have hl : L.length = n := by have h1 : (L.map Value.string).length = n * 1 := h.1; simpa using h1
  refine ⟨hl, by omega, ?_⟩
  by_cases h0 : n = 0
  · exact .inl h0
  · obtain ⟨g, rfl⟩ : ∃ g, a = some ⟨g, 0, none⟩ := by
      rcases h.2 with ⟨hv, h1⟩ | ⟨g, cap, cur, hv, _⟩
      · omega
      · simp only [Value.slice.injEq] at hv
        exact ⟨g, hv.1⟩
    refine .inr ⟨g, 0, rfl, (h.lt g rfl).2, fun i hi => ?_⟩
    rw [Nat.zero_add, h.cellAt i (by omega), List.getElem?_map, List.getElem?_eq_getElem (by omega)]
    show some (Value.string _) = some (Value.string (L.getD i ByteArray.empty))
    rw [List.getD_eq_getElem?_getD, List.getElem?_eq_getElem (by omega)]
    rfl
theorem SmallDis.id {d : Dis} (h : SmallDis d) (i : Nat) (hi : i < d.ids.length) : SmallId (d.ids.getD i dId) := h.1.2 i hi

set_option maxRecDepth 100000 in
set_option maxHeartbeats 6400000 in
theorem implCapsString_any (a1 a2 : Option Addr) (n1 c1 n2 c2 : Nat) (d : Dis) (w : World) (hs : SmallDis d) (hcap : CapOk a1 n1 c1 ∧ CapOk a2 n2 c2) (hT : Tabs w) (h : DisAt w a1 n1 c1 a2 n2 c2 d) :
    Calls Tryz.prog 40 #[.agg #[.slice a1 n1 c1, .slice a2 n2 c2]] w (TxtRes w (capsCode d) (capsText d)) := by
  have B0 := below2 w (.cells #[.slice a1 n1 c1, .slice a2 n2 c2] 50) (.cells #[.int .i64 0, .string { data := #[] }] 42)
  have K1 := Lib.hid (fun W (hb : Below w.heap.size w W) => implDiscoFault_any a1 a2 n1 c1 n2 c2 d W hs hcap (tabs_kept hT hb) (h.below hb))
  have HI := Lib.hid h.ids
  have HF := Lib.hid h.feats
  have HS := Lib.hid hs
  have HT := Lib.hid hT
  have H1 : Hid (disCode d ≠ 0 → capsText d = ByteArray.empty) := Lib.hid (fun h => by unfold capsText; rw [if_neg h])
  have H2 : Hid (disCode d = 0 → capsText d = ⟨(capsL d).toArray⟩ ∧ d.ids.length ≤ 6 ∧ d.feats.length ≤ 10 ∧ (∀ i, i < d.ids.length → identB (d.ids.getD i dId) = true) ∧ (∀ i, i < d.feats.length → fieldB (d.feats.getD i ByteArray.empty) false true = true)) := Lib.hid (fun h => by unfold capsText; rw [if_pos h]; exact ⟨rfl, dis_right h⟩)
  obtain ⟨i0, hi, hz0, hz1, hz2⟩ := info_parts lineInfo
  unfold TxtRes
  rw [show capsCode d = disCode d from rfl]
  generalize capsText d = tx at H1 H2 ⊢
  generalize disCode d = cd at K1 H1 H2 ⊢
  clear h hs hT hcap
  by_cases h0 : cd = 0
  · obtain ⟨rfl, hl1, hl2, hid, hft⟩ := H2.out h0
    have HID := Lib.hid hid
    have HFT := Lib.hid hft
    clear H1 H2 hid hft
    subst h0
    go_enter Tryz.func40, Tryz.ntmps40
    go_wp2_with fail
    refine (K1.out _ B0).mono ?_
    rintro en w1 ⟨rfl, hb1⟩
    have HB1 := Lib.hid hb1
    obtain ⟨hc1, hf1⟩ := bcell hb1
    have hz : w.heap.size + 1 < w1.heap.size := by have := hb1.size; simp at this; omega
    have d0 : w1.cell? ⟨w.heap.size, 0, none⟩ = some (.slice a1 n1 c1) := by rw [hc1 _ _ (by (try simp); try omega)]; go_simp
    have d1 : w1.cell? ⟨w.heap.size, 1, none⟩ = some (.slice a2 n2 c2) := by rw [hc1 _ _ (by (try simp); try omega)]; go_simp
    have r0 : w1.cell? ⟨w.heap.size + 1, 0, none⟩ = some (.int .i64 0) := by rw [hc1 _ _ (by (try simp); try omega)]; go_simp
    have r1 : w1.cell? ⟨w.heap.size + 1, 1, none⟩ = some (.string ⟨#[]⟩) := by rw [hc1 _ _ (by (try simp); try omega)]; go_simp
    have s0 : w1.frozen? ⟨w.heap.size + 1, 0, none⟩ = false := by rw [hf1 _ _ (by (try simp); try omega)]; go_simp
    have s1 : w1.frozen? ⟨w.heap.size + 1, 1, none⟩ = false := by rw [hf1 _ _ (by (try simp); try omega)]; go_simp
    have HK : Hid (∀ W, Below w1.heap.size w1 W → W.cell? ⟨w.heap.size, 1, none⟩ = some (.slice a2 n2 c2) ∧ W.cell? ⟨w.heap.size + 1, 0, none⟩ = some (.int .i64 0) ∧ W.cell? ⟨w.heap.size + 1, 1, none⟩ = some (.string ⟨#[]⟩) ∧ W.frozen? ⟨w.heap.size + 1, 0, none⟩ = false ∧ W.frozen? ⟨w.heap.size + 1, 1, none⟩ = false) := Lib.hid (fun W hb => ⟨(hb.cell (p := ⟨w.heap.size, 1, none⟩) (by show w.heap.size < _; omega)).trans d1, (hb.cell (p := ⟨w.heap.size + 1, 0, none⟩) hz).trans r0, (hb.cell (p := ⟨w.heap.size + 1, 1, none⟩) hz).trans r1, (hb.frozen (p := ⟨w.heap.size + 1, 0, none⟩) hz).trans s0, (hb.frozen (p := ⟨w.heap.size + 1, 1, none⟩) hz).trans s1⟩)
    have HBW := Lib.hid (below_then B0 hb1)
    have HLI := Lib.hid HI.out.len
    have HLF := Lib.hid HF.out.len
    have hn6 : n1 ≤ 6 := by have := HLI.out; omega
    have hn10 : n2 ≤ 10 := by have := HLF.out; omega
    have K2 := Lib.hid (fun x (hx : SmallId x) W (hb : Below w.heap.size w W) => implIdentityText_any x W hx (tabs_kept HT.out hb))
    unfold TxtRes at K2
    have hft := field_text
    clear hb1 hc1 hf1 d1 r0 r1 s0 s1 K1 B0 hl1 hl2
    go_wp2
    go_loopw [4, 19] (fun v i wr => ∃ (k : Nat) (a' : Option Addr) (c' : Nat), k ≤ n1 ∧ i = .int .i64 k ∧ v = .slice a' k c' ∧ wr.ownsRow w1.heap.size 101 1 (.slice a' k c') k (((d.ids.take k).map identT).map Value.string) ∧ Below w1.heap.size w1 wr) (fun _ i _ => n1 - (intOf i).toNat)
    case atStart => exact ⟨0, none, 0, Nat.zero_le _, rfl, rfl, World.ownsRow_nil _ _ _ _, Below.refl _ _⟩
    case round =>
      obtain ⟨k, a', c', hk, rfl, rfl, ho, hbl⟩ := hrel
      have HO := Lib.hid ho
      have HB := Lib.hid hbl
      have hsz := hbl.size
      clear ho d0
      by_cases hlt : k < n1
      · rcases HI.out.row with e0 | ⟨b, o, rfl, hrow⟩
        · omega
        have hx := hrow k hlt
        have hbw : b < w.heap.size := hx.lt
        have hxr := (hx.below HBW.out).below hbl
        have e0 := hxr.c0
        have e1 := hxr.c1
        have e2 := hxr.c2
        have e3 := hxr.c3
        have hsm := HS.out.id k (by have := HLI.out; omega)
        have hgood := HID.out k (by have := HLI.out; omega)
        have hTX : idText (d.ids.getD k dId) = identT (d.ids.getD k dId) := by unfold idText; rw [if_pos hgood]
        have hCD : idCode (d.ids.getD k dId) = 0 := by unfold idCode; rw [if_pos hgood]
        have KK := Lib.hid (K2.out (d.ids.getD k dId) hsm)
        rw [hTX, hCD] at KK
        have HTK : Hid ((d.ids.take (k + 1)).map identT = (d.ids.take k).map identT ++ [identT (d.ids.getD k dId)]) := Lib.hid (by
          rw [List.take_succ_eq_append_getElem (by have := HLI.out; omega), List.map_append, List.getD_eq_getElem?_getD, List.getElem?_eq_getElem (by have := HLI.out; omega)]; rfl)
        generalize identT (d.ids.getD k dId) = tx at KK HTK
        clear hx hxr hrow hbl hsm hgood hTX hCD
        generalize d.ids.getD k dId = x at e0 e1 e2 e3 KK
        obtain ⟨xa, xb, xc, xd⟩ := x
        dsimp only at e0 e1 e2 e3 KK
        have q1 : (k : Int) < (n1 : Int) := by omega
        go_wp2_with fail
        refine (KK.out _ (below_then HBW.out (below_then HB.out (below1 wr (.cells #[.string xa, .string xb, .string xc, .string xd] 54))))).mono ?_
        rintro e w2 ⟨rfl, hb2⟩
        have hb22 := below_then (below1 wr (.cells #[.string xa, .string xb, .string xc, .string xd] 54)) hb2
        have HO2 := Lib.hid (owns_below HO.out hb22)
        have HB2 := Lib.hid (HB.out.trans (hb22.mono HB.out.size))
        have hsz2 := HB2.out.size
        clear hb2 hb22 KK e0 e1 e2 e3
        go_wp2_with (at_builtin; refine wpList_append_own _ rfl _ _ 100 rfl w1.heap.size 101 i0 (.string ByteArray.empty) 1 16 Tryz.underlying100 hi hz0 hz1 hz2 rfl (by decide) _ k _ rfl (HO2.out.alloc _) ⟨w2.heap.size, 0, none⟩ 1 1 [.string tx] rfl rfl (cell_one_new _ _ _) (by simp [Value.oneCell']) (by unfold maxLen; omega) (by omega) (by simp; omega) ?_)
        intro v' w3 hown hgrow _
        obtain ⟨a2', c2', rfl⟩ := owns_slice hown
        have HO3 := Lib.hid hown
        have HB3 := Lib.hid (below_appended HB2.out HO2.out hgrow)
        clear hown hgrow
        go_wp2
        go_roundw
        case rel => exact ⟨k + 1, _, _, by omega, by go_num, rfl, by rw [HTK.out]; simpa [List.map_map, List.map_take] using HO3.out, HB3.out⟩
        case measure => simp [intOf]; omega
      · obtain rfl : k = n1 := by omega
        have HIA : Hid (wr.ownsRow w1.heap.size 101 1 (.slice a' k c') k ((d.ids.map identT).map Value.string)) := Lib.hid (by have h := HO.out; have hall : d.ids.take k = d.ids := List.take_of_length_le (by have := HLI.out; omega); simp only [hall] at h; exact h)
        obtain ⟨hd1, hr0, hr1, hs0, hs1⟩ := HK.out wr hbl
        obtain ⟨wo, hwo⟩ : ∃ wo, wo = wr := ⟨_, rfl⟩
        subst hwo
        clear HO hbl
        go_wp2
        go_loopw [5, 33] (fun v i wr => ∃ (j : Nat) (a' : Option Addr) (c' : Nat), j ≤ n2 ∧ i = .int .i64 j ∧ v = .slice a' j c' ∧ wr.ownsRow wo.heap.size 101 1 (.slice a' j c') j ((d.feats.take j).map Value.string) ∧ Below wo.heap.size wo wr) (fun _ i _ => n2 - (intOf i).toNat)
        case atStart => exact ⟨0, none, 0, Nat.zero_le _, rfl, rfl, World.ownsRow_nil _ _ _ _, Below.refl _ _⟩
        case round =>
          obtain ⟨j, a3, c3, hj, rfl, rfl, ho3, hb3⟩ := hrel
          have HO3 := Lib.hid ho3
          have HB3 := Lib.hid hb3
          have hsz3 := hb3.size
          clear ho3 hd1 hr0 hr1 hs0 hs1
          by_cases hlj : j < n2
          · rcases HF.out.row with e0 | ⟨b, o, rfl, hbw, hrow⟩
            · omega
            have e0 := (hb3.cell (p := ⟨b, o + j, none⟩) (by have h1 := HBW.out.size; have h2 := HB.out.size; show b < _; omega)).trans ((HB.out.cell (p := ⟨b, o + j, none⟩) (by have h1 := HBW.out.size; show b < _; omega)).trans ((HBW.out.cell (p := ⟨b, o + j, none⟩) hbw).trans (hrow j hlj)))
            have HTK : Hid (d.feats.take (j + 1) = d.feats.take j ++ [d.feats.getD j ByteArray.empty]) := Lib.hid (by
              rw [List.take_succ_eq_append_getElem (by have := HLF.out; omega), List.getD_eq_getElem?_getD, List.getElem?_eq_getElem (by have := HLF.out; omega)]; rfl)
            generalize d.feats.getD j ByteArray.empty = x at e0 HTK
            have q1 : (j : Int) < (n2 : Int) := by omega
            clear hrow hb3
            go_wp2_with (at_builtin; refine wpList_append_own _ rfl _ _ 100 rfl wo.heap.size 101 i0 (.string ByteArray.empty) 1 16 Tryz.underlying100 hi hz0 hz1 hz2 rfl (by decide) _ j _ rfl (HO3.out.alloc _) ⟨wr.heap.size, 0, none⟩ 1 1 [.string x] rfl rfl (cell_one_new _ _ _) (by simp [Value.oneCell']) (by unfold maxLen; omega) (by omega) (by simp; omega) ?_)
            intro v' w3 hown hgrow _
            obtain ⟨a2', c2', rfl⟩ := owns_slice hown
            have HO4 := Lib.hid hown
            have HB4 := Lib.hid (below_appended HB3.out HO3.out hgrow)
            clear hown hgrow
            go_wp2
            go_roundw
            case rel => exact ⟨j + 1, _, _, by omega, by go_num, rfl, by rw [HTK.out]; simpa [List.map_map, List.map_take] using HO4.out, HB4.out⟩
            case measure => simp [intOf]; omega
          · obtain rfl : j = n2 := by omega
            have HFA : Hid (wr.ownsRow wo.heap.size 101 1 (.slice a3 j c3) j (d.feats.map Value.string)) := Lib.hid (by have h := HO3.out; have hall : d.feats.take j = d.feats := List.take_of_length_le (by have := HLF.out; omega); simp only [hall] at h; exact h)
            have KA := Lib.hid (fun W (hb : Below wr.heap.size wr W) => rising_any a' k c' (d.ids.map identT) W (by omega) (fun i hi => by
              rw [show (d.ids.map identT).getD i ByteArray.empty = identT (d.ids.getD i dId) by rw [List.getD_eq_getElem?_getD, List.getD_eq_getElem?_getD, List.getElem?_map, List.getElem?_eq_getElem (by have := HLI.out; omega)]; rfl]
              exact identT_size (HS.out.id i (by have := HLI.out; omega))) (lines_owned (by omega) (owns_below (owns_below HIA.out hb3) hb)))
            have KB := Lib.hid (fun W (hb : Below wr.heap.size wr W) => rising_any a3 j c3 d.feats W (by omega) (fun i hi => Nat.le_trans (HS.out.2.2 i (by have := HLF.out; omega)) (by decide)) (lines_owned (by omega) (owns_below HFA.out hb)))
            have HC : Hid (∀ W, Below wr.heap.size wr W → W.cell? ⟨w.heap.size + 1, 0, none⟩ = some (.int .i64 0) ∧ W.cell? ⟨w.heap.size + 1, 1, none⟩ = some (.string ⟨#[]⟩) ∧ W.frozen? ⟨w.heap.size + 1, 0, none⟩ = false ∧ W.frozen? ⟨w.heap.size + 1, 1, none⟩ = false) := Lib.hid (fun W hb => (HK.out W (HB.out.trans ((hb3.trans (hb.mono hsz3)).mono hsz))).2)
            have hcat : Hid ((⟨(linesT (sortT (d.ids.map identT))).toArray⟩ : ByteArray) ++ ⟨(linesT (sortT d.feats)).toArray⟩ = ⟨(capsL d).toArray⟩) := Lib.hid (by apply ByteArray.ext; simp [capsL])
            have hl1 : (linesT (sortT (d.ids.map identT))).length ≤ 100000000 := by
              have := linesT_fewR (sortT (d.ids.map identT)) 5000000 (fun x hx => by
                obtain ⟨y, hy, rfl⟩ := List.mem_map.1 ((sortT_perm _).mem_iff.1 hx)
                obtain ⟨i, hi, rfl⟩ := List.getElem_of_mem hy
                have := HS.out.id i hi
                rw [List.getD_eq_getElem?_getD, List.getElem?_eq_getElem hi] at this
                exact identT_size this)
              rw [(sortT_perm _).length_eq, List.length_map, HLI.out] at this
              omega
            have hl2 : (linesT (sortT d.feats)).length ≤ 100000000 := by
              have := linesT_fewR (sortT d.feats) 5000000 (fun x hx => by
                obtain ⟨i, hi, rfl⟩ := List.getElem_of_mem ((sortT_perm _).mem_iff.1 hx)
                have := HS.out.2.2 i hi
                rw [List.getD_eq_getElem?_getD, List.getElem?_eq_getElem hi] at this
                exact Nat.le_trans this (by decide))
              rw [(sortT_perm _).length_eq, HLF.out] at this
              omega
            have z1 : (⟨(linesT (sortT (d.ids.map identT))).toArray⟩ : ByteArray).size ≤ 100000000 := by show (linesT _).toArray.size ≤ _; rw [List.size_toArray]; exact hl1
            have z2 : (⟨(linesT (sortT d.feats)).toArray⟩ : ByteArray).size ≤ 100000000 := by show (linesT _).toArray.size ≤ _; rw [List.size_toArray]; exact hl2
            clear hl1 hl2 hb3
            generalize (⟨(linesT (sortT (d.ids.map identT))).toArray⟩ : ByteArray) = t1 at KA hcat z1
            generalize (⟨(linesT (sortT d.feats)).toArray⟩ : ByteArray) = t2 at KB hcat z2
            obtain ⟨t3, ht3⟩ : ∃ t3, t3 = (⟨(capsL d).toArray⟩ : ByteArray) := ⟨_, rfl⟩
            rw [← ht3] at hcat
            have HT3 := Lib.hid ht3
            clear ht3
            have q2 : ¬ 9223372036854775807 < t1.size + t2.size := by omega
            go_wp2_with fail
            refine (KA.out _ (Below.refl _ _)).mono ?_
            rintro e w4 ⟨rfl, hb4⟩
            have HB4 := Lib.hid hb4
            clear hb4 KA
            go_wp2_with fail
            refine (KB.out _ HB4.out).mono ?_
            rintro e w5 ⟨rfl, hb5⟩
            have hb6 := below_then HB4.out hb5
            obtain ⟨r0, r1, s0, s1⟩ := HC.out w5 hb6
            have HBF := Lib.hid (below_then (below_then HBW.out (HB.out.trans (HB3.out.mono hsz))) hb6)
            have hz5 : w.heap.size + 1 < w5.heap.size := by have h1 := hb6.size; omega
            have HCT := Lib.hid hcat.out
            clear hb5 hb6 HB4 KB hcat
            go_wp2
            exact bodyPost_ret (v := .agg #[.int .i64 0, .string t3]) (by simp [results, Tryz.results40, go_sem, r0, r1, HCT.out]) rfl ⟨by rw [HT3.out], (HBF.out.setCell (by simp) _).setCell (by simp) _⟩
  · obtain rfl := H1.out h0
    have h0b : (cd != 0) = true := by rw [bne_iff_ne]; exact h0
    clear H1 H2
    go_enter Tryz.func40, Tryz.ntmps40
    go_wp2_with fail
    refine (K1.out _ B0).mono ?_
    rintro en w1 ⟨rfl, hb1⟩
    obtain ⟨hc1, hf1⟩ := bcell hb1
    have hz : w.heap.size + 1 < w1.heap.size := by have := hb1.size; simp at this; omega
    have B1 := Lib.hid (below_then B0 hb1)
    clear hb1
    go_wp2
    exact bodyPost_ret (v := .agg #[.int .i64 cd, .string ByteArray.empty]) (by simp [results, Tryz.results40, go_sem, hc1]; rfl) rfl ⟨rfl, (B1.out.setCell (by simp) _).setCell (by simp) _⟩
end Go.Proofs.YtcaknhoaoodbfaaGreatDoor
