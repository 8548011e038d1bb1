/- spec.CapsOf. -/
import Derived.Test.YtcaknhoaoodbfaaGreatDoorGC32
import Derived.Test.YtcaknhoaoodbfaaGreatDoorGC13
import Derived.Test.YtcaknhoaoodbfaaGreatDoorGC44
import Derived.Test.YtcaknhoaoodbfaaGreatDoorGC46
import Derived.Lib.ConvBytes
import Derived.Lib.AtoiErrMem
import Derived.Test.YtcaknhoaoodbfaaGreatDoorGC17
import Derived.Lib.FrozenHead2
import Derived.Laws.CopyOwn
namespace Go.Proofs.YtcaknhoaoodbfaaGreatDoor
open Go.ChangeShapes Go.WideShapes Go.ChangeAt Go.RowKit
set_option linter.unusedVariables false

theorem owned_in {w : World} {B n c : Nat} {a : Option Addr} {xs : List Int} (h : w.ownsRow B 5 1 (.slice a n c) n (xs.map (Value.int .u8))) (hx : ∀ x ∈ xs, 0 ≤ x ∧ x ≤ 255) (hn : n ≤ 10000) : InRow w a n c xs := by
  have hl := owns_length h
  refine ⟨by unfold maxLen; omega, hl.symm, fun i => ?_, ?_⟩
  · rw [List.getD_eq_getElem?_getD]
    rcases Nat.lt_or_ge i xs.length with hi | hi
    · rw [List.getElem?_eq_getElem hi]
      exact hx _ (List.getElem_mem hi)
    · rw [List.getElem?_eq_none hi]
      decide
  · by_cases h0 : n = 0
    · exact .inl h0
    · rcases Row.of_owns h with ⟨hv, he⟩ | ⟨b, o, cap, hv, h1, h2, h3, h4⟩
      · subst he; simp at hl; omega
      · simp only [Value.slice.injEq] at hv
        exact .inr ⟨b, o, hv.1, h3, fun i hi => h4 i (by omega)⟩
theorem owned_cap {w : World} {B n c : Nat} {a : Option Addr} {xs : List Value} {e : TypeId} {size : Nat} (h : w.ownsRow B e size (.slice a n c) n xs) : (a = none → c = 0) ∧ n ≤ c ∧ c ≤ maxLen := by
  rcases h.2 with ⟨hv, h0⟩ | ⟨g, cap, cur, hv, _, _, h1, h2, _⟩
  · simp only [Value.slice.injEq] at hv
    exact ⟨fun _ => hv.2.2, by omega, by rw [hv.2.2]; decide⟩
  · simp only [Value.slice.injEq] at hv
    obtain ⟨rfl, _, rfl⟩ := hv
    exact ⟨(fun e => by cases e), h1, h2⟩

set_option maxRecDepth 100000 in
set_option maxHeartbeats 1600000 in
theorem specCapsOf_any (a1 a2 : Option Addr) (n1 c1 n2 c2 : Nat) (d : Dis) (w : World) (hs : SmallDis d) (h : DisAt w a1 n1 c1 a2 n2 c2 d) :
    Calls Tryz.prog 44 #[.agg #[.slice a1 n1 c1, .slice a2 n2 c2]] w (TxtRes w (capsCode d) (capsName d)) := by
  have B0 := below2 w (.cells #[.slice a1 n1 c1, .slice a2 n2 c2] 50) (.cells #[.int .i64 0, .string { data := #[] }] 42)
  have K1 := Lib.hid (fun W (hb : Below w.heap.size w W) => specCapsString_any a1 a2 n1 c1 n2 c2 d W hs (h.below hb))
  unfold TxtRes at K1
  unfold TxtRes
  have HE : Hid (disCode d ≠ 0 → capsText d = ByteArray.empty ∧ capsName d = ByteArray.empty) := Lib.hid (fun h0 => by unfold capsText capsName; rw [if_neg h0, if_neg h0]; exact ⟨rfl, rfl⟩)
  have HY : Hid (disCode d = 0 → capsText d = ⟨(capsL d).toArray⟩ ∧ capsName d = ⟨(b64L (shaL (capsNums d))).toArray⟩ ∧ (capsL d).length ≤ 3000) := Lib.hid (fun h0 => by unfold capsText capsName; rw [if_pos h0, if_pos h0]; exact ⟨rfl, rfl, caps_len h0⟩)
  have HNB := Lib.hid (capsNums_byte d)
  have HNL := Lib.hid (capsNums_len d)
  have hcc : capsCode d = disCode d := rfl
  rw [hcc] at K1 ⊢
  have HNA : Hid (capsNums d = (capsL d).map fun u => (u.toNat : Int)) := Lib.hid rfl
  generalize capsText d = tx at K1 HE HY
  generalize capsName d = nm at HE HY ⊢
  generalize capsNums d = xs at HY HNB HNL HNA
  generalize capsL d = cl at HY HNL HNA
  generalize disCode d = cd at K1 HE HY ⊢
  clear h hs hcc
  by_cases h0 : cd = 0
  · obtain ⟨rfl, rfl, hlen⟩ := HY.out h0
    subst h0
    clear HY HE
    go_enter Tryz.func44, Tryz.ntmps44
    go_wp2_with fail
    refine (K1.out _ B0).mono ?_
    rintro en w1 ⟨rfl, hb1⟩
    have HB1 := Lib.hid hb1
    have hz1 : w.heap.size + 1 < w1.heap.size := by have := hb1.size; simp at this; omega
    obtain ⟨hc1, hf1⟩ := bcell hb1
    clear hb1
    obtain ⟨W, hW⟩ : ∃ W, w1.alloc (.cells #[.int .i64 0, .string ⟨cl.toArray⟩] 42) = W := ⟨_, rfl⟩
    have hWz : W.heap.size = w1.heap.size + 1 := by rw [← hW]; simp
    have HBW : Hid (Below w1.heap.size w1 W) := Lib.hid (by rw [← hW]; exact below1 _ _)
    have hsz : (⟨cl.toArray⟩ : ByteArray).size = cl.length := by show cl.toArray.size = _; rw [List.size_toArray]
    have e0 : W.cell? ⟨w1.heap.size, 0, none⟩ = some (.int .i64 0) := by rw [← hW]; simp
    have e1 : W.cell? ⟨w1.heap.size, 1, none⟩ = some (.string ⟨cl.toArray⟩) := by rw [← hW]; simp
    have hcv := Lib.run_convert_string_bytes (P := Tryz.prog) W 9 22 5 ⟨cl.toArray⟩ (u := .string) Tryz.underlying9 Tryz.underlying22 Tryz.underlying5
    have HCB := Lib.hid (fun j (hj : j < (⟨cl.toArray⟩ : ByteArray).size) => Lib.bytesWorld_cell W 5 ⟨cl.toArray⟩ j hj)
    have HBL := Lib.hid (Lib.bytesWorld_below W 5 ⟨cl.toArray⟩)
    have HWL : Hid (W.heap.size < (Lib.bytesWorld W 5 ⟨cl.toArray⟩).heap.size) := Lib.hid (by rw [Lib.bytesWorld_size]; omega)
    generalize Lib.bytesWorld W 5 ⟨cl.toArray⟩ = W2 at hcv HCB HBL HWL
    generalize grownCap W (⟨cl.toArray⟩ : ByteArray).size 0 5 = cp at hcv
    rw [hsz] at hcv
    rw [hWz] at hcv HCB HWL
    have HI2 : Hid (InRow W2 (some ⟨w1.heap.size + 1, 0, none⟩) cl.length cp xs) := Lib.hid ⟨by unfold maxLen; omega, HNL.out, HNB.out, .inr ⟨w1.heap.size + 1, 0, rfl, HWL.out, fun i hi => by
      rw [Nat.zero_add, HCB.out i (by rw [hsz]; exact hi), HNA.out]
      show some (Value.int .u8 ((cl.getD i 0).toNat : Int)) = _
      rw [List.getD_eq_getElem?_getD, List.getD_eq_getElem?_getD, List.getElem?_map, List.getElem?_eq_getElem hi]
      rfl⟩⟩
    clear HCB HNA HNB
    go_wp2_with fail
    have KS := Lib.hid (l9Sha_any _ _ _ xs W2 (by omega) (fun e => by cases e) HI2.out)
    unfold OwnsRes at KS
    go_wp2_with fail
    refine KS.out.mono ?_
    rintro en w3 ⟨a3, n3, c3, rfl, ho3, hb3⟩
    have hn3 : n3 = 20 := by have := owns_length ho3; rw [shaL_length] at this; exact this
    subst hn3
    have KB := Lib.hid (l9Base64_any a3 20 c3 (shaL xs) w3 (by decide) (owned_cap ho3).2.1 (owned_in ho3 (shaL_mem xs) (by decide)))
    have HB3 := Lib.hid (below_then HBL.out hb3)
    clear ho3 hb3 KS hcv HI2 e0 e1
    go_wp2_with fail
    refine KB.out.mono ?_
    rintro en w4 ⟨rfl, hb4⟩
    have hb5 := below_then HBW.out (below_then HB3.out hb4)
    obtain ⟨hcc, hff⟩ := bcell (below_then HB1.out hb5)
    have hz4 : w.heap.size + 1 < w4.heap.size := by have := hb5.size; omega
    have HBF := Lib.hid (below_then B0 (below_then HB1.out hb5))
    clear hb4 hb5 KB hc1 hf1
    go_wp2
    exact bodyPost_ret (v := .agg #[.int .i64 0, .string ⟨(b64L (shaL xs)).toArray⟩]) (by simp [results, Tryz.results44, go_sem, hcc]) rfl ⟨rfl, (HBF.out.setCell (by simp) _).setCell (by simp) _⟩
  · obtain ⟨rfl, rfl⟩ := HE.out h0
    have h0b : (cd != 0) = true := by rw [bne_iff_ne]; exact h0
    clear HE HY
    go_enter Tryz.func44, Tryz.ntmps44
    go_wp2_with fail
    refine (K1.out _ B0).mono ?_
    rintro en w1 ⟨rfl, hb1⟩
    have hb2 := below_then hb1 (below1 w1 (.cells #[.int .i64 cd, .string ByteArray.empty] 42))
    obtain ⟨hc1, hf1⟩ := bcell hb2
    have hz : w.heap.size + 1 < w1.heap.size := by have := hb1.size; simp at this; omega
    have HB2 := Lib.hid (below_then B0 hb2)
    obtain ⟨W, hW⟩ : ∃ W, w1.alloc (.cells #[.int .i64 cd, .string ByteArray.empty] 42) = W := ⟨_, rfl⟩
    have e0 : W.cell? ⟨w1.heap.size, 0, none⟩ = some (.int .i64 cd) := by rw [← hW]; simp
    rw [hW] at hc1 hf1 HB2
    have hne1 : w1.heap.size ≠ w.heap.size + 1 := by omega
    have hne2 : w.heap.size + 1 ≠ w1.heap.size := by omega
    clear hb1 hb2
    go_wp2
    exact bodyPost_ret (v := .agg #[.int .i64 cd, .string ByteArray.empty]) (by simp [results, Tryz.results44, go_sem, hc1]; rfl) rfl ⟨rfl, (HB2.out.setCell (by simp) _).setCell (by simp) _⟩
end Go.Proofs.YtcaknhoaoodbfaaGreatDoor

/- The contract of strings.Builder's WriteByte at this dump. -/
namespace Go.Proofs.YtcaknhoaoodbfaaGreatDoor
open Go.ChangeShapes Go.WideShapes Go.ChangeAt Go.RowKit Go.Shelf
set_option linter.unusedVariables false

theorem byteInfoC : (Tryz.prog.info? 5).map (fun i => (i.zero, i.size, i.bytes)) = some (some (.int .u8 0), 1, 1) := by kernel_rfl
/-- behind a byte written: the builder has it behind its own -/
def WroteB (w : World) (B b : Nat) (bs : List Value) (c : Int) (e : Ending) (w' : World) : Prop :=
  e = .returned .nilIface ∧ AtB w' B b (bs ++ [.int .u8 c]) ∧ Below B w w' ∧ KeptB b w w'

set_option maxHeartbeats 1600000 in
set_option maxRecDepth 100000 in
theorem writeByte_any (B b : Nat) (bs : List Value) (c : Int) (w : World) (h : IsB w B b bs) (hlen : bs.length ≤ 1000000) (hBw : B ≤ w.heap.size) :
    Calls Tryz.prog 211 #[.pointer (some ⟨b, 0, none⟩), .int .u8 c] w (WroteB w B b bs c) := by
  obtain ⟨i0, hi, hz0, hz1, hz2⟩ := info_parts byteInfoC
  have HI := Lib.hid h
  clear h
  go_enter Tryz.func211, Tryz.ntmps211
  go_wp2_with fail
  refine (copyCheck_any B b bs _ HI.out).mono ?_
  rintro e w1 ⟨rfl, h1, hb1, hk1⟩
  obtain ⟨hB, v, hbk, hown, hne⟩ := h1
  obtain ⟨ao, cap, rfl⟩ : ∃ ao cap, v = .slice ao bs.length cap := by
    rcases hown.2 with ⟨hv, h0⟩ | ⟨g, cap, cur, fz, hv, _⟩
    · exact ⟨none, 0, by rw [hv, h0]⟩
    · exact ⟨_, _, hv⟩
  have c1 : w1.cell? ⟨b, 1, none⟩ = some (.slice ao bs.length cap) := by rw [Lib.cell_of_heap hbk]; rfl
  have HOWN := Lib.hid hown
  have HNE := Lib.hid hne
  have HBK := Lib.hid hbk
  have HK1 := Lib.hid hk1
  have HB1 := Lib.hid hb1
  clear hown hne hbk hk1 hb1
  go_wp2_with (at_builtin; go_loud (refine wpList_append_ownF _ rfl _ _ 22 rfl B 5 i0 (.int .u8 0) 1 1 Tryz.underlying22 hi hz0 hz1 hz2 rfl (by decide) _ _ _ rfl (HOWN.out.alloc _) ⟨w1.heap.size, 0, none⟩ 1 1 [.int .u8 c] rfl rfl ?c1 ?c2 ?c3 ?c4 ?c5 ?_))
  case c1 =>
    intro j u hj
    match j, hj with
    | 0, hj => simp at hj; subst hj; simp [Addr.add]
  case c2 => intro u hu; simp at hu; subst hu; rfl
  case c3 => unfold maxLen; omega
  case c4 => omega
  case c5 => have := HB1.out.size; simp; omega
  intro v' w2 hown' hgrow _
  have hlt : b < w1.heap.size := by
    rcases Nat.lt_or_ge b w1.heap.size with h' | h'
    · exact h'
    · have := HBK.out
      simp [Array.getElem?_eq_none h'] at this
  have hb2 : w2.heap[b]? = some (.cells #[.pointer (some ⟨b, 0, none⟩), .slice ao bs.length cap] 176 (0, 0)) := by
    rw [hgrow.block b (by simp; omega) (fun e => HNE.out e.symm), Lib.alloc_old w1 _ b hlt]
    exact HBK.out
  have d1 : w2.cell? ⟨b, 1, none⟩ = some (.slice ao bs.length cap) := by rw [Lib.cell_of_heap hb2]; rfl
  have f1 : w2.frozen? ⟨b, 1, none⟩ = false := Lib.frozen_of_heap hb2 1
  obtain ⟨g, cap', rfl⟩ : ∃ g cap', v' = .slice (some ⟨g, 0, none⟩) (bs.length + 1) cap' := by
    rcases hown'.2 with ⟨_, h0⟩ | ⟨g, cap', cur, fz, hv, _⟩
    · omega
    · exact ⟨g, cap', hv⟩
  have HO2 := Lib.hid hown'
  have HG := Lib.hid hgrow
  have HB2 := Lib.hid hb2
  clear hown' hgrow hb2 c1
  go_wp2
  go_ret
  refine ⟨rfl, ?_, ?_, ((HK1.out.alloc _).grown HG.out (Lib.ownsRowF_kind (HOWN.out.alloc _))).setCell ⟨b, 1, none⟩ rfl _⟩
  · have := HO2.out
    exact Lib.BuilderAtF.put hB HB2.out (bs' := bs ++ [.int .u8 c]) (by simpa using this) neBuilder
  · exact ((HB1.out.alloc (by have := HB1.out.size; omega) _).grown HG.out (by have := HB1.out.size; simp; omega) (fun k hk => (HOWN.out.lt k hk).1)).setCell (p := ⟨b, 1, none⟩) hB _
end Go.Proofs.YtcaknhoaoodbfaaGreatDoor

/- The program's writeGroup. -/
namespace Go.Proofs.YtcaknhoaoodbfaaGreatDoor
open Go.ChangeShapes Go.WideShapes Go.ChangeAt Go.RowKit
set_option linter.unusedVariables false

theorem joined (x y z : Int) (hx : 0 ≤ x ∧ x ≤ 255) (hy : 0 ≤ y ∧ y ≤ 255) (hz : 0 ≤ z ∧ z ≤ 255) : bits .or .i64 (bits .or .i64 (x * 65536) (y * 256)) z = x * 65536 + y * 256 + z := by
  have hw : ∀ n : Int, 0 ≤ n → n < 2 ^ 62 → IntKind.i64.wrap n = n := fun n h0 h1 => IntWalk.i64_in n (by omega)
  rw [bits_join .i64 62 (by decide) hw 16 (x * 65536) (y * 256) (by omega) (by omega) (by omega) (by omega) (by omega) (by omega)]
  rw [bits_join .i64 62 (by decide) hw 8 (x * 65536 + y * 256) z (by omega) (by omega) (by omega) (by omega) (by omega) (by omega)]
theorem padded3 (gr : List Int) (h : gr.length ≤ 3) : splice [Value.int .u8 0, .int .u8 0, .int .u8 0] 0 (gr.map (Value.int .u8)) = [Value.int .u8 (gr.getD 0 0), .int .u8 (gr.getD 1 0), .int .u8 (gr.getD 2 0)] := by
  match gr, h with
  | [], _ => rfl
  | [a], _ => rfl
  | [a, b], _ => rfl
  | [a, b, c], _ => rfl
theorem grpL_take (gr : List Int) (i : Nat) (h : i < 4) : (grpL gr).take (i + 1) = (grpL gr).take i ++ [grpS gr i] := by
  match i, h with
  | 0, _ => rfl
  | 1, _ => rfl
  | 2, _ => rfl
  | 3, _ => rfl

theorem ib_below {B b : Nat} {bs : List Value} {W W' : World} (h : IsB W B b bs) (hb : Below W.heap.size W W') : IsB W' B b bs := by
  rcases h with h | h
  all_goals
    have hlt := h.lt
    obtain ⟨hB, v, hv, hown, hne⟩ := h
  · exact .inl ⟨hB, v, (hb.block b hlt).trans hv, hown.kept (row := none) ⟨hb.os, hb.tape, hb.output, hb.size, fun k hk _ => hb.block k hk⟩ (Classical.em _), hne⟩
  · exact .inr ⟨hB, v, (hb.block b hlt).trans hv, hown.kept (row := none) ⟨hb.os, hb.tape, hb.output, hb.size, fun k hk _ => hb.block k hk⟩ (Classical.em _), hne⟩
/-- behind a group written -/
def GroupRes (w : World) (B b : Nat) (bs : List Value) (gr : List Int) (e : Ending) (w' : World) : Prop :=
  e = .returned (.tuple #[]) ∧ AtB w' B b (bs ++ Lib.byteCells (grpL gr)) ∧ Below B w w' ∧ KeptB b w w'

set_option maxRecDepth 100000 in
set_option maxHeartbeats 3200000 in
theorem writeGroup_any (B b g o m c : Nat) (bs : List Value) (gr : List Int) (w : World) (hB : IsB w B b bs) (hlen : bs.length ≤ 900000) (hBw : B ≤ w.heap.size) (hm1 : 1 ≤ m) (hm3 : m ≤ 3) (hl : gr.length = m) (hby : ∀ i, 0 ≤ gr.getD i 0 ∧ gr.getD i 0 ≤ 255) (hg : g < w.heap.size)
    (hx : ∀ i, i < m → w.cell? ⟨g, o + i, none⟩ = some (.int .u8 (gr.getD i 0))) :
    Calls Tryz.prog 165 #[.pointer (some ⟨b, 0, none⟩), .slice (some ⟨g, o, none⟩) m c] w (GroupRes w B b bs gr) := by
  obtain ⟨i0, hi, hz0, hz1, hz2⟩ := info_parts cpInfo
  have hsz1 : (Tryz.prog.info? 5).map (·.size) = some 1 := by rw [hi]; exact congrArg some hz1
  have HX := Lib.hid hx
  have HIB := Lib.hid hB
  have HPD := Lib.hid (padded3 gr (by omega))
  have hNb : 0 ≤ gr.getD 0 0 * 65536 + gr.getD 1 0 * 256 + gr.getD 2 0 := by have := hby 0; have := hby 1; have := hby 2; omega
  have HJ := Lib.hid (joined _ _ _ (hby 0) (hby 1) (hby 2))
  have hy0 := hby 0
  have hy1 := hby 1
  have hy2 := hby 2
  have HGN : Hid (grpN gr = gr.getD 0 0 * 65536 + gr.getD 1 0 * 256 + gr.getD 2 0) := Lib.hid rfl
  have HLEN := Lib.hid hl
  unfold GroupRes
  clear hx hB
  go_enter Tryz.func165, Tryz.ntmps165
  go_wp2_with (with_reducible refine wpList_copy_splice rfl (.tmp 7) (.tmp 8) 22 22 rfl 5 Tryz.underlying22 hsz1 (some ⟨w.heap.size, 0, none⟩) (some ⟨g, o, none⟩) 3 3 m c rfl rfl w.heap.size 0 [.int .u8 0, .int .u8 0, .int .u8 0] 232 (heap_alloc_new w _) (gr.map (Value.int .u8)) ?c1 ?c2 ?c3 (oneI gr) w.heap.size w (below1 w _) (Nat.le_refl _) ?_)
  case c1 => simp only [List.length_map, hl]; show m = Nat.min m 3; exact (Nat.min_eq_left hm3).symm
  case c2 =>
    intro _ j v hj
    have hj3 : j < gr.length := by
      rcases Nat.lt_or_ge j gr.length with h1 | h1
      · exact h1
      · rw [List.getElem?_eq_none (by simpa using h1)] at hj; cases hj
    rw [HX.out j (by omega), List.getD_eq_getElem?_getD, hj]
    rfl
  case c3 => simp; omega
  intro w1 hg1 hb1
  rw [HPD.out] at hg1
  have HIB1 := Lib.hid (ib_below HIB.out hb1)
  have HB1 := Lib.hid (hb1.mono hBw)
  have HK1 : Hid (KeptB b w w1) := Lib.hid (fun k o hk _ _ => (hb1.block k (Array.getElem?_eq_some_iff.1 hk).1).trans hk)
  have hz := hb1.size
  have d0 : w1.cell? ⟨w.heap.size, 0, none⟩ = some (.int .u8 (gr.getD 0 0)) := by rw [Lib.cell_of_heap hg1.out]; rfl
  have d1 : w1.cell? ⟨w.heap.size, 1, none⟩ = some (.int .u8 (gr.getD 1 0)) := by rw [Lib.cell_of_heap hg1.out]; rfl
  have d2 : w1.cell? ⟨w.heap.size, 2, none⟩ = some (.int .u8 (gr.getD 2 0)) := by rw [Lib.cell_of_heap hg1.out]; rfl
  have HS : Hid (∀ i, i < 4 → i ≤ m → grpS gr i = sg ((gr.getD 0 0 * 65536 + gr.getD 1 0 * 256 + gr.getD 2 0) / 2 ^ (18 - 6 * i) % 64)) := Lib.hid (fun i _ h => by rw [grpS_in gr i (by omega), HGN.out]; rfl)
  have HS2 : Hid (∀ i, m < i → grpS gr i = 61) := Lib.hid (fun i h => by unfold grpS; rw [if_pos (by omega)])
  have HTK := Lib.hid (fun i h => grpL_take gr i h)
  clear hg1 hb1 HIB HX hby
  generalize gr.getD 0 0 = x0 at *
  generalize gr.getD 1 0 = x1 at *
  generalize gr.getD 2 0 = x2 at *
  obtain ⟨y00, y01⟩ := hy0
  obtain ⟨y10, y11⟩ := hy1
  obtain ⟨y20, y21⟩ := hy2
  have v0 : IntKind.i64.wrap x0 = x0 := IntWalk.i64_in _ (by omega)
  have v1 : IntKind.i64.wrap x1 = x1 := IntWalk.i64_in _ (by omega)
  have v2 : IntKind.i64.wrap x2 = x2 := IntWalk.i64_in _ (by omega)
  have v3 : IntKind.i64.wrap (x0 * 65536) = x0 * 65536 := IntWalk.i64_in _ (by omega)
  have v4 : IntKind.i64.wrap (x1 * 256) = x1 * 256 := IntWalk.i64_in _ (by omega)
  go_wp2
  rw [HJ.out]
  clear HJ v0 v1 v2 v3 v4 d0 d1 d2
  generalize x0 * 65536 + x1 * 256 + x2 = N at *
  clear y00 y01 y10 y11 y20 y21
  go_loopw [23] (fun i wr => ∃ k : Nat, k ≤ 4 ∧ i = .int .i64 k ∧ IsB wr B b (bs ++ Lib.byteCells ((grpL gr).take k)) ∧ Below B w wr ∧ KeptB b w wr ∧ Hid (0 < k → AtB wr B b (bs ++ Lib.byteCells ((grpL gr).take k)))) (fun i _ => 4 - (intOf i).toNat)
  case atStart => exact ⟨0, by omega, rfl, by simpa [Lib.byteCells] using HIB1.out, HB1.out, HK1.out, Lib.hid (fun h => absurd h (by omega))⟩
  case round =>
    clear HIB1 HB1 HK1 hz
    obtain ⟨k, hk, rfl, hI, hB, hKp, HA⟩ := hrel
    have HKP := Lib.hid hKp
    have HI := Lib.hid hI
    have HB := Lib.hid hB
    have hsz := hB.size
    clear hI hB hKp
    have hlk0 : (Lib.byteCells ((grpL gr).take k)).length = k := by rw [Lib.byteCells_length, List.length_take]; show min k 4 = k; omega
    by_cases hlk : k < 4
    · have HT := Lib.hid (HTK.out k hlk)
      by_cases hkm : m < k
      · have KW := Lib.hid (fun W (h : IsB W B b (bs ++ Lib.byteCells ((grpL gr).take k))) (hW : B ≤ W.heap.size) => writeByte_any B b _ 61 W h (by rw [List.length_append, hlk0]; omega) hW)
        have HE := Lib.hid (HS2.out k hkm)
        unfold WroteB at KW
        have q1 : (m : Int) < (k : Int) := by omega
        clear HA hlk0
        go_wp2_with fail
        refine (KW.out _ HI.out (by omega)).mono ?_
        rintro e w2 ⟨rfl, hA2, hB2, hK2⟩
        have HA2 := Lib.hid hA2
        have HB2 := Lib.hid hB2
        have HK2 := Lib.hid (HKP.out.trans hK2)
        clear hA2 hB2 hK2 KW
        go_wp2
        go_roundw
        case rel =>
          have h2 : AtB w2 B b (bs ++ Lib.byteCells ((grpL gr).take (k + 1))) := by
            rw [HT.out, HE.out, Lib.byteCells_append, ← List.append_assoc]; exact HA2.out
          exact ⟨k + 1, by omega, by go_num, .inr h2, HB.out.trans HB2.out, HK2.out, Lib.hid (fun _ => h2)⟩
        case measure => simp [intOf]; omega
      · have HE := Lib.hid (HS.out k hlk (by omega))
        obtain ⟨s, hs⟩ : ∃ s, 18 - 6 * k = s := ⟨_, rfl⟩
        rw [hs] at HE
        have e1 : 18 - 6 * (k : Int) = (s : Int) := by omega
        have hs2 : (s : Int) ≤ 18 := by omega
        have hd0 : 0 ≤ N / 2 ^ s := Int.ediv_nonneg hNb (by have : (0:Int) < 2 ^ s := Int.pow_pos (by decide); omega)
        have r1 : (N / 2 ^ s).tmod 64 = N / 2 ^ s % 64 := Int.tmod_eq_emod_of_nonneg hd0
        have b0 : 0 ≤ N / 2 ^ s % 64 := by omega
        have b1 : N / 2 ^ s % 64 < 64 := by omega
        have KW := Lib.hid (fun W (h : IsB W B b (bs ++ Lib.byteCells ((grpL gr).take k))) (hW : B ≤ W.heap.size) => writeByte_any B b _ ((sg (N / 2 ^ s % 64)).toNat : Int) W h (by rw [List.length_append, hlk0]; omega) hW)
        unfold WroteB at KW
        have q1 : ¬ ((m : Int) < (k : Int)) := by omega
        clear HA hlk0 hs hd0
        go_wp2_with fail
        simp only [signLit]
        refine (KW.out _ HI.out (by omega)).mono ?_
        rintro e w2 ⟨rfl, hA2, hB2, hK2⟩
        have HA2 := Lib.hid hA2
        have HB2 := Lib.hid hB2
        have HK2 := Lib.hid (HKP.out.trans hK2)
        clear hA2 hB2 hK2 KW
        go_wp2
        go_roundw
        case rel =>
          have h2 : AtB w2 B b (bs ++ Lib.byteCells ((grpL gr).take (k + 1))) := by
            rw [HT.out, HE.out, Lib.byteCells_append, ← List.append_assoc]; exact HA2.out
          exact ⟨k + 1, by omega, by go_num, .inr h2, HB.out.trans HB2.out, HK2.out, Lib.hid (fun _ => h2)⟩
        case measure => simp [intOf]; omega
    · obtain rfl : k = 4 := by omega
      have hAt := HA.out (by omega)
      have HAt := Lib.hid hAt
      clear hAt HA hlk0
      go_wp2
      go_end0
      exact ⟨rfl, HAt.out, HB.out, HKP.out⟩
end Go.Proofs.YtcaknhoaoodbfaaGreatDoor
