/- spec.CapsOf. -/
import Derived.Test.YtmmicoiiklcakaaGreatDoorGC14
import Derived.Test.YtmmicoiiklcakaaGreatDoorGC27
import Derived.Test.YtmmicoiiklcakaaGreatDoorGC29
import Derived.Lib.ConvBytes
namespace Go.Proofs.YtmmicoiiklcakaaGreatDoor
open Go.ChangeShapes Go.WideShapes Go.ChangeAt Go.RowKit
set_option linter.unusedVariables false

theorem owned_in {w : World} {B n c : Nat} {a : Option Addr} {xs : List Int} (h : w.ownsRow B 5 1 (.slice a n c) n (xs.map (Value.int .u8))) (hx : ∀ x ∈ xs, 0 ≤ x ∧ x ≤ 255) (hn : n ≤ 10000) : InRow w a n c xs := by
  have hl := owns_length h
  refine ⟨by unfold maxLen; omega, hl.symm, fun i => ?_, ?_⟩
  · rw [List.getD_eq_getElem?_getD]
    rcases Nat.lt_or_ge i xs.length with hi | hi
    · rw [List.getElem?_eq_getElem hi]
      exact hx _ (List.getElem_mem hi)
    · rw [List.getElem?_eq_none hi]
      decide
  · by_cases h0 : n = 0
    · exact .inl h0
    · rcases Row.of_owns h with ⟨hv, he⟩ | ⟨b, o, cap, hv, h1, h2, h3, h4⟩
      · subst he; simp at hl; omega
      · simp only [Value.slice.injEq] at hv
        exact .inr ⟨b, o, hv.1, h3, fun i hi => h4 i (by omega)⟩
theorem owned_cap {w : World} {B n c : Nat} {a : Option Addr} {xs : List Value} {e : TypeId} {size : Nat} (h : w.ownsRow B e size (.slice a n c) n xs) : (a = none → c = 0) ∧ n ≤ c ∧ c ≤ maxLen := by
  rcases h.2 with ⟨hv, h0⟩ | ⟨g, cap, cur, hv, _, _, h1, h2, _⟩
  · simp only [Value.slice.injEq] at hv
    exact ⟨fun _ => hv.2.2, by omega, by rw [hv.2.2]; decide⟩
  · simp only [Value.slice.injEq] at hv
    obtain ⟨rfl, _, rfl⟩ := hv
    exact ⟨(fun e => by cases e), h1, h2⟩

set_option maxRecDepth 100000 in
set_option maxHeartbeats 1600000 in
theorem specCapsOf_any (a1 a2 : Option Addr) (n1 c1 n2 c2 : Nat) (d : Dis) (w : World) (hs : SmallDis d) (h : DisAt w a1 n1 c1 a2 n2 c2 d) :
    Calls Tryz.prog 48 #[.agg #[.slice a1 n1 c1, .slice a2 n2 c2]] w (TxtRes w (capsCode d) (capsName d)) := by
  have B0 := below2 w (.cells #[.slice a1 n1 c1, .slice a2 n2 c2] 50) (.cells #[.int .i64 0, .string { data := #[] }] 42)
  have K1 := Lib.hid (fun W (hb : Below w.heap.size w W) => specCapsString_any a1 a2 n1 c1 n2 c2 d W hs (h.below hb))
  unfold TxtRes at K1
  unfold TxtRes
  have HE : Hid (disCode d ≠ 0 → capsText d = ByteArray.empty ∧ capsName d = ByteArray.empty) := Lib.hid (fun h0 => by unfold capsText capsName; rw [if_neg h0, if_neg h0]; exact ⟨rfl, rfl⟩)
  have HY : Hid (disCode d = 0 → capsText d = ⟨(capsL d).toArray⟩ ∧ capsName d = ⟨(b64L (shaL (capsNums d))).toArray⟩ ∧ (capsL d).length ≤ 3000) := Lib.hid (fun h0 => by unfold capsText capsName; rw [if_pos h0, if_pos h0]; exact ⟨rfl, rfl, caps_len h0⟩)
  have HNB := Lib.hid (capsNums_byte d)
  have HNL := Lib.hid (capsNums_len d)
  have hcc : capsCode d = disCode d := rfl
  rw [hcc] at K1 ⊢
  have HNA : Hid (capsNums d = (capsL d).map fun u => (u.toNat : Int)) := Lib.hid rfl
  generalize capsText d = tx at K1 HE HY
  generalize capsName d = nm at HE HY ⊢
  generalize capsNums d = xs at HY HNB HNL HNA
  generalize capsL d = cl at HY HNL HNA
  generalize disCode d = cd at K1 HE HY ⊢
  clear h hs hcc
  by_cases h0 : cd = 0
  · obtain ⟨rfl, rfl, hlen⟩ := HY.out h0
    subst h0
    clear HY HE
    go_enter Tryz.func48, Tryz.ntmps48
    go_wp2_with fail
    refine (K1.out _ B0).mono ?_
    rintro en w1 ⟨rfl, hb1⟩
    have HB1 := Lib.hid hb1
    have hz1 : w.heap.size + 1 < w1.heap.size := by have := hb1.size; simp at this; omega
    obtain ⟨hc1, hf1⟩ := bcell hb1
    clear hb1
    obtain ⟨W, hW⟩ : ∃ W, w1.alloc (.cells #[.int .i64 0, .string ⟨cl.toArray⟩] 42) = W := ⟨_, rfl⟩
    have hWz : W.heap.size = w1.heap.size + 1 := by rw [← hW]; simp
    have HBW : Hid (Below w1.heap.size w1 W) := Lib.hid (by rw [← hW]; exact below1 _ _)
    have hsz : (⟨cl.toArray⟩ : ByteArray).size = cl.length := by show cl.toArray.size = _; rw [List.size_toArray]
    have e0 : W.cell? ⟨w1.heap.size, 0, none⟩ = some (.int .i64 0) := by rw [← hW]; simp
    have e1 : W.cell? ⟨w1.heap.size, 1, none⟩ = some (.string ⟨cl.toArray⟩) := by rw [← hW]; simp
    have hcv := Lib.run_convert_string_bytes (P := Tryz.prog) W 9 22 5 ⟨cl.toArray⟩ (u := .string) Tryz.underlying9 Tryz.underlying22 Tryz.underlying5
    have HCB := Lib.hid (fun j (hj : j < (⟨cl.toArray⟩ : ByteArray).size) => Lib.bytesWorld_cell W 5 ⟨cl.toArray⟩ j hj)
    have HBL := Lib.hid (Lib.bytesWorld_below W 5 ⟨cl.toArray⟩)
    have HWL : Hid (W.heap.size < (Lib.bytesWorld W 5 ⟨cl.toArray⟩).heap.size) := Lib.hid (by rw [Lib.bytesWorld_size]; omega)
    generalize Lib.bytesWorld W 5 ⟨cl.toArray⟩ = W2 at hcv HCB HBL HWL
    generalize grownCap W (⟨cl.toArray⟩ : ByteArray).size 0 5 = cp at hcv
    rw [hsz] at hcv
    rw [hWz] at hcv HCB HWL
    have HI2 : Hid (InRow W2 (some ⟨w1.heap.size + 1, 0, none⟩) cl.length cp xs) := Lib.hid ⟨by unfold maxLen; omega, HNL.out, HNB.out, .inr ⟨w1.heap.size + 1, 0, rfl, HWL.out, fun i hi => by
      rw [Nat.zero_add, HCB.out i (by rw [hsz]; exact hi), HNA.out]
      show some (Value.int .u8 ((cl.getD i 0).toNat : Int)) = _
      rw [List.getD_eq_getElem?_getD, List.getD_eq_getElem?_getD, List.getElem?_map, List.getElem?_eq_getElem hi]
      rfl⟩⟩
    clear HCB HNA HNB
    go_wp2_with fail
    have KS := Lib.hid (l9Sha_any _ _ _ xs W2 (by omega) (fun e => by cases e) HI2.out)
    unfold OwnsRes at KS
    go_wp2_with fail
    refine KS.out.mono ?_
    rintro en w3 ⟨a3, n3, c3, rfl, ho3, hb3⟩
    have hn3 : n3 = 20 := by have := owns_length ho3; rw [shaL_length] at this; exact this
    subst hn3
    have KB := Lib.hid (l9Base64_any a3 20 c3 (shaL xs) w3 (by decide) (owned_cap ho3).2.1 (owned_in ho3 (shaL_mem xs) (by decide)))
    have HB3 := Lib.hid (below_then HBL.out hb3)
    clear ho3 hb3 KS hcv HI2 e0 e1
    go_wp2_with fail
    refine KB.out.mono ?_
    rintro en w4 ⟨rfl, hb4⟩
    have hb5 := below_then HBW.out (below_then HB3.out hb4)
    obtain ⟨hcc, hff⟩ := bcell (below_then HB1.out hb5)
    have hz4 : w.heap.size + 1 < w4.heap.size := by have := hb5.size; omega
    have HBF := Lib.hid (below_then B0 (below_then HB1.out hb5))
    clear hb4 hb5 KB hc1 hf1
    go_wp2
    exact bodyPost_ret (v := .agg #[.int .i64 0, .string ⟨(b64L (shaL xs)).toArray⟩]) (by simp [results, Tryz.results48, go_sem, hcc]) rfl ⟨rfl, (HBF.out.setCell (by simp) _).setCell (by simp) _⟩
  · obtain ⟨rfl, rfl⟩ := HE.out h0
    have h0b : (cd != 0) = true := by rw [bne_iff_ne]; exact h0
    clear HE HY
    go_enter Tryz.func48, Tryz.ntmps48
    go_wp2_with fail
    refine (K1.out _ B0).mono ?_
    rintro en w1 ⟨rfl, hb1⟩
    have hb2 := below_then hb1 (below1 w1 (.cells #[.int .i64 cd, .string ByteArray.empty] 42))
    obtain ⟨hc1, hf1⟩ := bcell hb2
    have hz : w.heap.size + 1 < w1.heap.size := by have := hb1.size; simp at this; omega
    have HB2 := Lib.hid (below_then B0 hb2)
    obtain ⟨W, hW⟩ : ∃ W, w1.alloc (.cells #[.int .i64 cd, .string ByteArray.empty] 42) = W := ⟨_, rfl⟩
    have e0 : W.cell? ⟨w1.heap.size, 0, none⟩ = some (.int .i64 cd) := by rw [← hW]; simp
    rw [hW] at hc1 hf1 HB2
    have hne1 : w1.heap.size ≠ w.heap.size + 1 := by omega
    have hne2 : w.heap.size + 1 ≠ w1.heap.size := by omega
    clear hb1 hb2
    go_wp2
    exact bodyPost_ret (v := .agg #[.int .i64 cd, .string ByteArray.empty]) (by simp [results, Tryz.results48, go_sem, hc1]; rfl) rfl ⟨rfl, (HB2.out.setCell (by simp) _).setCell (by simp) _⟩
end Go.Proofs.YtmmicoiiklcakaaGreatDoor
