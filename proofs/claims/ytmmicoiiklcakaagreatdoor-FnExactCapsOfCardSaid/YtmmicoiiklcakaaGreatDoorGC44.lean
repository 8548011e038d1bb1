/- The program's CapsOf. -/
import Derived.Test.YtmmicoiiklcakaaGreatDoorGC42
import Derived.Test.YtmmicoiiklcakaaGreatDoorGC30
import Derived.Test.YtmmicoiiklcakaaGreatDoorGC25
import Derived.Test.YtmmicoiiklcakaaGreatDoorGC43
import Derived.Lib.ConvBytes
namespace Go.Proofs.YtmmicoiiklcakaaGreatDoor
open Go.ChangeShapes Go.WideShapes Go.ChangeAt Go.RowKit
set_option linter.unusedVariables false

theorem field_bytes (c : Int) (a : Option Addr) (n k : Nat) (W : World) : (Instr.field 122 (.agg #[.int .i64 c, .slice a n k]) 1).run Tryz.prog W = .ok (.slice a n k) W := by kernel_rfl
set_option maxRecDepth 100000 in
set_option maxHeartbeats 1600000 in
theorem implCapsOf_any (a1 a2 : Option Addr) (n1 c1 n2 c2 : Nat) (d : Dis) (w : World) (hs : SmallDis d) (hcap : CapOk a1 n1 c1 ∧ CapOk a2 n2 c2) (hT : Tabs w) (h : DisAt w a1 n1 c1 a2 n2 c2 d) :
    Calls Tryz.prog 45 #[.agg #[.slice a1 n1 c1, .slice a2 n2 c2]] w (TxtRes w (capsCode d) (capsName d)) := by
  have B0 := below2 w (.cells #[.slice a1 n1 c1, .slice a2 n2 c2] 50) (.cells #[.int .i64 0, .string { data := #[] }] 42)
  have K1 := Lib.hid (fun W (hb : Below w.heap.size w W) => implCapsString_any a1 a2 n1 c1 n2 c2 d W hs hcap (tabs_kept hT hb) (h.below hb))
  unfold TxtRes at K1
  unfold TxtRes
  have HE : Hid (disCode d ≠ 0 → capsText d = ByteArray.empty ∧ capsName d = ByteArray.empty) := Lib.hid (fun h0 => by unfold capsText capsName; rw [if_neg h0, if_neg h0]; exact ⟨rfl, rfl⟩)
  have HY : Hid (disCode d = 0 → capsText d = ⟨(capsL d).toArray⟩ ∧ capsName d = ⟨(b64L (shaL (capsNums d))).toArray⟩ ∧ (capsL d).length ≤ 3000) := Lib.hid (fun h0 => by unfold capsText capsName; rw [if_pos h0, if_pos h0]; exact ⟨rfl, rfl, caps_len h0⟩)
  have HNB := Lib.hid (capsNums_byte d)
  have HNL := Lib.hid (capsNums_len d)
  have hcc : capsCode d = disCode d := rfl
  rw [hcc] at K1 ⊢
  have HNA : Hid (capsNums d = (capsL d).map fun u => (u.toNat : Int)) := Lib.hid rfl
  generalize capsText d = tx at K1 HE HY
  generalize capsName d = nm at HE HY ⊢
  generalize capsNums d = xs at HY HNB HNL HNA
  generalize capsL d = cl at HY HNL HNA
  generalize disCode d = cd at K1 HE HY ⊢
  clear h hs hcc hcap hT
  by_cases h0 : cd = 0
  · obtain ⟨rfl, rfl, hlen⟩ := HY.out h0
    subst h0
    clear HY HE
    go_enter Tryz.func45, Tryz.ntmps45
    go_wp2_with fail
    refine (K1.out _ B0).mono ?_
    rintro en w1 ⟨rfl, hb1⟩
    have HB1 := Lib.hid hb1
    have hz1 : w.heap.size + 1 < w1.heap.size := by have := hb1.size; simp at this; omega
    obtain ⟨hc1, hf1⟩ := bcell hb1
    clear hb1
    obtain ⟨W, hW⟩ : ∃ W, w1.alloc (.cells #[.int .i64 0, .string ⟨cl.toArray⟩] 42) = W := ⟨_, rfl⟩
    have hWz : W.heap.size = w1.heap.size + 1 := by rw [← hW]; simp
    have HBW : Hid (Below w1.heap.size w1 W) := Lib.hid (by rw [← hW]; exact below1 _ _)
    have hsz : (⟨cl.toArray⟩ : ByteArray).size = cl.length := by show cl.toArray.size = _; rw [List.size_toArray]
    have e0 : W.cell? ⟨w1.heap.size, 0, none⟩ = some (.int .i64 0) := by rw [← hW]; simp
    have e1 : W.cell? ⟨w1.heap.size, 1, none⟩ = some (.string ⟨cl.toArray⟩) := by rw [← hW]; simp
    have hcv := Lib.run_convert_string_bytes (P := Tryz.prog) W 9 22 5 ⟨cl.toArray⟩ (u := .string) Tryz.underlying9 Tryz.underlying22 Tryz.underlying5
    have HCB := Lib.hid (fun j (hj : j < (⟨cl.toArray⟩ : ByteArray).size) => Lib.bytesWorld_cell W 5 ⟨cl.toArray⟩ j hj)
    have HBL := Lib.hid (Lib.bytesWorld_below W 5 ⟨cl.toArray⟩)
    have HWL : Hid (W.heap.size < (Lib.bytesWorld W 5 ⟨cl.toArray⟩).heap.size) := Lib.hid (by rw [Lib.bytesWorld_size]; omega)
    generalize Lib.bytesWorld W 5 ⟨cl.toArray⟩ = W2 at hcv HCB HBL HWL
    generalize grownCap W (⟨cl.toArray⟩ : ByteArray).size 0 5 = cp at hcv
    rw [hsz] at hcv
    rw [hWz] at hcv HCB HWL
    have HI2 : Hid (InRow W2 (some ⟨w1.heap.size + 1, 0, none⟩) cl.length cp xs) := Lib.hid ⟨by unfold maxLen; omega, HNL.out, HNB.out, .inr ⟨w1.heap.size + 1, 0, rfl, HWL.out, fun i hi => by
      rw [Nat.zero_add, HCB.out i (by rw [hsz]; exact hi), HNA.out]
      show some (Value.int .u8 ((cl.getD i 0).toNat : Int)) = _
      rw [List.getD_eq_getElem?_getD, List.getD_eq_getElem?_getD, List.getElem?_map, List.getElem?_eq_getElem hi]
      rfl⟩⟩
    clear HCB HNA HNB
    go_wp2_with fail
    have KS := Lib.hid (implSha1Of_any _ _ _ xs W2 (by omega) (fun e => by cases e) HI2.out)
    have hsc : shaCode xs = 0 := by unfold shaCode; rw [if_neg (by rw [HNL.out]; omega)]
    have hsb : shaBytes xs = shaL xs := by unfold shaBytes; rw [if_neg (by rw [HNL.out]; omega)]
    rw [hsc, hsb] at KS
    clear hsc hsb
    unfold OwnsRes2 at KS
    have hfb := field_bytes
    go_wp2_with fail
    refine KS.out.mono ?_
    rintro en w3 ⟨a3, n3, c3, rfl, ho3, hb3⟩
    have hn3 : n3 = 20 := by have := owns_length ho3; rw [shaL_length] at this; exact this
    subst hn3
    have KB := Lib.hid (implBase64Of_any a3 20 c3 (shaL xs) w3 (by decide) (owned_cap ho3).2.1 (owned_cap ho3).2.2 (owned_in ho3 (shaL_mem xs) (by decide)))
    have hbc : b64Code (shaL xs) = 0 := by unfold b64Code; rw [if_neg (by rw [shaL_length]; decide)]
    have hbt : b64Text (shaL xs) = ⟨(b64L (shaL xs)).toArray⟩ := by unfold b64Text; rw [if_neg (by rw [shaL_length]; decide)]
    rw [hbc, hbt] at KB
    clear hbc hbt
    have HB3 := Lib.hid (below_then HBL.out hb3)
    clear ho3 hb3 KS hcv HI2 e0 e1
    go_wp2_with fail
    refine KB.out.mono ?_
    rintro en w4 ⟨rfl, hb4⟩
    have hb5 := below_then HBW.out (below_then HB3.out hb4)
    obtain ⟨hcc, hff⟩ := bcell (below_then HB1.out hb5)
    have hz4 : w.heap.size + 1 < w4.heap.size := by have := hb5.size; omega
    have HBF := Lib.hid (below_then B0 (below_then HB1.out hb5))
    clear hb4 hb5 KB hc1 hf1
    go_wp2
    exact bodyPost_ret (v := .agg #[.int .i64 0, .string ⟨(b64L (shaL xs)).toArray⟩]) (by simp [results, Tryz.results45, go_sem, hcc]) rfl ⟨rfl, (HBF.out.setCell (by simp) _).setCell (by simp) _⟩
  · obtain ⟨rfl, rfl⟩ := HE.out h0
    have h0b : (cd != 0) = true := by rw [bne_iff_ne]; exact h0
    clear HE HY
    go_enter Tryz.func45, Tryz.ntmps45
    go_wp2_with fail
    refine (K1.out _ B0).mono ?_
    rintro en w1 ⟨rfl, hb1⟩
    have hb2 := below_then hb1 (below1 w1 (.cells #[.int .i64 cd, .string ByteArray.empty] 42))
    obtain ⟨hc1, hf1⟩ := bcell hb2
    have hz : w.heap.size + 1 < w1.heap.size := by have := hb1.size; simp at this; omega
    have HB2 := Lib.hid (below_then B0 hb2)
    obtain ⟨W, hW⟩ : ∃ W, w1.alloc (.cells #[.int .i64 cd, .string ByteArray.empty] 42) = W := ⟨_, rfl⟩
    have e0 : W.cell? ⟨w1.heap.size, 0, none⟩ = some (.int .i64 cd) := by rw [← hW]; simp
    rw [hW] at hc1 hf1 HB2
    have hne1 : w1.heap.size ≠ w.heap.size + 1 := by omega
    have hne2 : w.heap.size + 1 ≠ w1.heap.size := by omega
    clear hb1 hb2
    go_wp2
    exact bodyPost_ret (v := .agg #[.int .i64 cd, .string ByteArray.empty]) (by simp [results, Tryz.results45, go_sem, hc1]; rfl) rfl ⟨rfl, (HB2.out.setCell (by simp) _).setCell (by simp) _⟩
end Go.Proofs.YtmmicoiiklcakaaGreatDoor
