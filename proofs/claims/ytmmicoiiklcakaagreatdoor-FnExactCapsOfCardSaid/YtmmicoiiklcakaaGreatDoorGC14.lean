/- The model's l9String. -/
import Derived.Test.YtmmicoiiklcakaaGreatDoorGC13
import Derived.Test.YtmmicoiiklcakaaGreatDoorGC10
import Derived.Test.YtmmicoiiklcakaaGreatDoorGC4
import Derived.Deep.RegionHeld3
import Derived.Test.YtmmicoiiklcakaaGreatDoorGC11
import Derived.Test.YtmmicoiiklcakaaGreatDoorGC0
import Derived.Laws.BitsAllLaws
import Derived.Test.YtmmicoiiklcakaaGreatDoorGC3
namespace Go.Proofs.YtmmicoiiklcakaaGreatDoor
open Go.ChangeShapes Go.WideShapes Go.ChangeAt Go.RowKit
set_option linter.unusedVariables false

theorem sts_owned {w : World} {B n c : Nat} {a : Option Addr} {L : List ByteArray} (hn : n ≤ 1000000) (h : w.ownsRow B 9 1 (.slice a n c) n (L.map Value.string)) : StsAt w a n c L := by
  have hl : L.length = n := by have h1 : (L.map Value.string).length = n * 1 := h.1; simpa using h1
  refine ⟨hl, by omega, ?_⟩
  by_cases h0 : n = 0
  · exact .inl h0
  · obtain ⟨g, rfl⟩ : ∃ g, a = some ⟨g, 0, none⟩ := by
      rcases h.2 with ⟨hv, h1⟩ | ⟨g, cap, cur, hv, _⟩
      · omega
      · simp only [Value.slice.injEq] at hv
        exact ⟨g, hv.1⟩
    exact .inr ⟨g, 0, rfl, (h.lt g rfl).2, fun i hi => by rw [Nat.zero_add]; exact own_cell h i hi⟩
theorem linesT_len : ∀ (l : List ByteArray), (∀ x ∈ l, x.size ≤ 5000000) → (linesT l).length ≤ 5000001 * l.length
  | [], _ => by simp [linesT]
  | x :: l, h => by
    have h1 := h x (List.mem_cons_self ..)
    have h2 := linesT_len l (fun y hy => h y (List.mem_cons_of_mem _ hy))
    have e1 : x.data.toList.length = x.size := rfl
    have e2 : linesT (x :: l) = (x.data.toList ++ [60]) ++ linesT l := by simp [linesT]
    rw [e2]
    simp only [List.length_append, e1, List.length_cons, List.length_nil]
    omega
theorem sorted_len {l : List ByteArray} (h : ∀ i, i < l.length → (l.getD i ByteArray.empty).size ≤ 5000000) : (linesT (sortT l)).length ≤ 5000001 * l.length := by
  have := linesT_len (sortT l) (fun x hx => by
    obtain ⟨i, hi, rfl⟩ := List.getElem_of_mem ((sortT_perm l).mem_iff.1 hx)
    have := h i hi
    rwa [List.getD_eq_getElem?_getD, List.getElem?_eq_getElem hi] at this)
  rwa [(sortT_perm l).length_eq] at this
theorem identT_size {x : Ident} (h : SmallId x) : (identT x).size ≤ 5000000 := by
  obtain ⟨h1, h2, h3, h4⟩ := h
  unfold identT
  simp only [ByteArray.size_append, show slash.size = 1 from rfl]
  omega

theorem held2S {w0 W W' : World} {p1 p2 : Addr} {v1 v2 : Value} (hb : Below W.heap.size W W')
    (h : Below w0.heap.size w0 W ∧ W.cell? p1 = some v1 ∧ W.cell? p2 = some v2) :
    Below w0.heap.size w0 W' ∧ W'.cell? p1 = some v1 ∧ W'.cell? p2 = some v2 :=
  ⟨below_then h.1 hb, (hb.cell (World.block_lt_of_cell? W _ h.2.1)).trans h.2.1, (hb.cell (World.block_lt_of_cell? W _ h.2.2)).trans h.2.2⟩

set_option maxRecDepth 100000 in
set_option maxHeartbeats 6400000 in
theorem l9String_any (p : Nat) (a1 a2 : Option Addr) (n1 c1 n2 c2 : Nat) (d : Dis) (w : World) (hs : SmallDis d) (hn1 : n1 ≤ 1000) (hn2 : n2 ≤ 1000) (h : DisVar w p a1 n1 c1 a2 n2 c2 d) :
    Calls Tryz.prog 117 #[.pointer (some ⟨p, 0, none⟩)] w fun e w' => e = .returned (.string ⟨(capsL d).toArray⟩) ∧ Below w.heap.size w w' := by
  obtain ⟨i0, hi, hz0, hz1, hz2⟩ := info_parts strInfoD
  have hl0 : (w.alloc (.cells #[] 9)).ownsRow w.heap.size 9 1 (.slice (some ⟨w.heap.size, 0, none⟩) 0 0) 0 ((([] : List Ident).map identT).map Value.string) := by
    have := World.ownsRow_lit (base := w.heap.size) (e := 9) (size := 1) w #[] 0 (Nat.le_refl _) (by unfold maxLen; omega) rfl
    simpa using this
  have HO0 := Lib.hid hl0
  have HV0 := Lib.hid h
  have HL := Lib.hid h.at_.ids.len
  have HL2 := Lib.hid h.at_.feats.len
  have v0 := (h.below (below1 w (.cells #[] 9))).v0
  have hpl := h.lt
  have HS1 := Lib.hid hs.1.2
  have HS2 := Lib.hid hs.2.2
  clear hl0 h hs
  unfold capsL
  go_enter Tryz.func117, Tryz.ntmps117
  go_wp2
  go_loopw [3, 11] (fun v i wr => ∃ (k : Nat) (a' : Option Addr) (c' : Nat), k ≤ n1 ∧ i = .int .i64 k ∧ v = .slice a' k c' ∧ wr.ownsRow w.heap.size 9 1 (.slice a' k c') k (((d.ids.take k).map identT).map Value.string) ∧ Below w.heap.size w wr) (fun _ i _ => n1 - (intOf i).toNat)
  case atStart => exact ⟨0, _, 0, Nat.zero_le _, rfl, rfl, HO0.out, below1 _ _⟩
  case round =>
    clear HO0 v0
    obtain ⟨k, a', c', hk, rfl, rfl, ho, hb⟩ := hrel
    have HO := Lib.hid ho
    have HB := Lib.hid hb
    have HV := Lib.hid (HV0.out.below hb)
    have hsz := hb.size
    have v0 := HV.out.v0
    have v1 := HV.out.v1
    clear ho hb
    by_cases hlt : k < n1
    · rcases HV.out.at_.ids.row with e0 | ⟨b, o, rfl, hrow⟩
      · omega
      have K := Lib.hid (l9Text_any b (o + k * 4) (d.ids.getD k dId) wr (HS1.out k (by have := HL.out; omega)) (hrow k hlt))
      have HT : Hid (((d.ids.take (k + 1)).map identT).map Value.string = ((d.ids.take k).map identT).map Value.string ++ [.string (identT (d.ids.getD k dId))]) := Lib.hid (by
        rw [List.take_succ_eq_append_getElem (by have := HL.out; omega), List.getD_eq_getElem?_getD, List.getElem?_eq_getElem (by have := HL.out; omega), List.map_append, List.map_append]
        rfl)
      generalize identT (d.ids.getD k dId) = x at K HT
      have q1 : (k : Int) < (n1 : Int) := by omega
      clear hrow
      go_wp2_with fail
      refine K.out.mono ?_
      rintro e w1 ⟨rfl, nd, rfl⟩
      have HO1 := Lib.hid (owns_below HO.out (below_drewN (Below.refl _ _) nd))
      have HB1 := Lib.hid (below_drewN HB.out nd)
      have hsz1 := HB1.out.size
      generalize wr.drewN nd = w1 at HO1 HB1 hsz1 ⊢
      clear K
      go_wp2_with (at_builtin; refine wpList_append_own _ rfl _ _ 48 rfl w.heap.size 9 i0 (.string ByteArray.empty) 1 16 Tryz.underlying48 hi hz0 hz1 hz2 rfl (by decide) _ k _ rfl (HO1.out.alloc _) ⟨w1.heap.size, 0, none⟩ 1 1 [.string x] rfl rfl (one_str w1 x) (by simp [Value.oneCell']) (by unfold maxLen; omega) (by omega) (by simp; omega) ?_)
      intro v' w2 hown hgrow _
      obtain ⟨a2', c2', rfl⟩ := owns_slice hown
      have HO2 := Lib.hid hown
      have HB2 := Lib.hid (below_appended HB1.out HO1.out hgrow)
      clear hown hgrow
      go_wp2
      go_roundw
      case rel => exact ⟨k + 1, _, _, by omega, by go_num, rfl, by rw [HT.out]; simpa [List.map_map, List.map_take] using HO2.out, HB2.out⟩
      case measure => simp [intOf]; omega
    · obtain rfl : k = n1 := by omega
      have hall : d.ids.take k = d.ids := List.take_of_length_le (by have := HL.out; omega)
      have HS3 := HO.out
      rw [hall] at HS3
      have HO3 := Lib.hid HS3
      have K1 := Lib.hid (fun W (hb : Below wr.heap.size wr W) => l9Sorted_any a' k c' (d.ids.map identT) W hn1 (fun i hi => by
        rw [show (d.ids.map identT).getD i ByteArray.empty = identT (d.ids.getD i dId) by rw [List.getD_eq_getElem?_getD, List.getD_eq_getElem?_getD, List.getElem?_map, List.getElem?_eq_getElem (by have := HL.out; omega)]; rfl]
        exact identT_size (HS1.out i (by have := HL.out; omega))) (sts_owned (by omega) (owns_below HO3.out hb)))
      have K2 := Lib.hid (fun W (hb : Below wr.heap.size wr W) => l9Sorted_any a2 n2 c2 d.feats W hn2 (fun i hi => Nat.le_trans (HS2.out i (by have := HL2.out; omega)) (by decide)) (HV.out.at_.feats.below hb))
      have z1 : (linesT (sortT (d.ids.map identT))).length ≤ 5000001 * 1000 := Nat.le_trans (sorted_len (fun i hi => by
        rw [List.length_map] at hi
        rw [show (d.ids.map identT).getD i ByteArray.empty = identT (d.ids.getD i dId) by rw [List.getD_eq_getElem?_getD, List.getD_eq_getElem?_getD, List.getElem?_map, List.getElem?_eq_getElem hi]; rfl]
        exact identT_size (HS1.out i hi))) (Nat.mul_le_mul_left _ (by rw [List.length_map]; have := HL.out; omega))
      have z2 : (linesT (sortT d.feats)).length ≤ 5000001 * 1000 := Nat.le_trans (sorted_len (fun i hi => Nat.le_trans (HS2.out i hi) (by decide))) (Nat.mul_le_mul_left _ (by have := HL2.out; omega))
      have hs1 : (⟨(linesT (sortT (d.ids.map identT))).toArray⟩ : ByteArray).size ≤ 5000001000 := by show (linesT _).toArray.size ≤ _; rw [List.size_toArray]; exact z1
      have hs2 : (⟨(linesT (sortT d.feats)).toArray⟩ : ByteArray).size ≤ 5000001000 := by show (linesT _).toArray.size ≤ _; rw [List.size_toArray]; exact z2
      have HAP : Hid ((⟨(linesT (sortT (d.ids.map identT))).toArray⟩ : ByteArray) ++ (⟨(linesT (sortT d.feats)).toArray⟩ : ByteArray) = ⟨(linesT (sortT (d.ids.map identT)) ++ linesT (sortT d.feats)).toArray⟩) := Lib.hid (by apply ByteArray.ext; simp)
      clear z1 z2 HS3
      obtain ⟨tx, htx⟩ : ∃ tx, (⟨(linesT (sortT (d.ids.map identT)) ++ linesT (sortT d.feats)).toArray⟩ : ByteArray) = tx := ⟨_, rfl⟩
      have HTX := Lib.hid htx
      rw [htx] at HAP
      clear htx
      generalize (⟨(linesT (sortT (d.ids.map identT))).toArray⟩ : ByteArray) = s1 at K1 hs1 HAP
      generalize (⟨(linesT (sortT d.feats)).toArray⟩ : ByteArray) = s2 at K2 hs2 HAP
      have hsum : ¬ 9223372036854775807 < s1.size + s2.size := by omega
      have hpw : p < wr.heap.size := by omega
      go_wp2_with fail
      have hS0 : Below wr.heap.size wr wr.drew ∧ wr.drew.cell? ⟨p, 0, none⟩ = some (.slice a1 k c1) ∧ wr.drew.cell? ⟨p, 1, none⟩ = some (.slice a2 n2 c2) := ⟨(Below.refl _ _).drew, v0, v1⟩
      (go_region_held3 (fun W => Below wr.heap.size wr W ∧ W.cell? ⟨p, 0, none⟩ = some (.slice a1 k c1) ∧ W.cell? ⟨p, 1, none⟩ = some (.slice a2 n2 c2)) (first | assumption | exact held2S hbr (by assumption))
        (first
          | (go_at_call 206; (with_reducible refine (K1.out _ (And.left (by assumption))).mono ?_); rintro e wx ⟨rfl, hbr⟩)
          | (go_at_call 206; (with_reducible refine (K2.out _ (And.left (by assumption))).mono ?_); rintro e wy ⟨rfl, hbr⟩)))
      have hBf : Below wr.heap.size wr wy := And.left (by assumption)
      go_wp2
      go_ret
      exact ⟨by rw [HTX.out, ← HAP.out]; first | done | rfl, below_then HB.out hBf⟩
end Go.Proofs.YtmmicoiiklcakaaGreatDoor

/- spec.CapsString. -/
namespace Go.Proofs.YtmmicoiiklcakaaGreatDoor
open Go.ChangeShapes Go.WideShapes Go.ChangeAt Go.RowKit
set_option linter.unusedVariables false

theorem few_d {d : Dis} (h : disCode d = 0) : d.ids.length ≤ 6 ∧ d.feats.length ≤ 10 := by
  unfold disCode at h
  by_cases hm : manyD d = true
  · rw [if_pos hm] at h
    cases h
  · unfold manyD at hm
    simp at hm
    exact hm

set_option maxRecDepth 100000 in
set_option maxHeartbeats 1600000 in
theorem specCapsString_any (a1 a2 : Option Addr) (n1 c1 n2 c2 : Nat) (d : Dis) (w : World) (hs : SmallDis d) (h : DisAt w a1 n1 c1 a2 n2 c2 d) :
    Calls Tryz.prog 47 #[.agg #[.slice a1 n1 c1, .slice a2 n2 c2]] w (TxtRes w (capsCode d) (capsText d)) := by
  have B0 := below2 w (.cells #[.slice a1 n1 c1, .slice a2 n2 c2] 50) (.cells #[.int .i64 0, .string { data := #[] }] 42)
  have V0 := Lib.hid ((show DisVar (w.alloc (.cells #[.slice a1 n1 c1, .slice a2 n2 c2] 50)) w.heap.size a1 n1 c1 a2 n2 c2 d from ⟨by simp, by simp, by simp, h.below (below1 _ _)⟩).below (below1 _ (.cells #[.int .i64 0, .string { data := #[] }] 42)))
  have K1 := Lib.hid (fun W (hb : Below w.heap.size w W) => specDiscoFault_any a1 a2 n1 c1 n2 c2 d W hs (h.below hb))
  have K2 := Lib.hid (fun (h0 : disCode d = 0) W (hv : DisVar W w.heap.size a1 n1 c1 a2 n2 c2 d) => l9String_any w.heap.size a1 a2 n1 c1 n2 c2 d W hs (by have := few_d h0; have := h.ids.len; omega) (by have := few_d h0; have := h.feats.len; omega) hv)
  have HC : Hid (capsCode d = disCode d) := Lib.hid rfl
  have H1 : Hid (disCode d ≠ 0 → capsText d = ByteArray.empty) := Lib.hid (fun h => by unfold capsText; rw [if_neg h])
  have H2 : Hid (disCode d = 0 → capsText d = ⟨(capsL d).toArray⟩) := Lib.hid (fun h => by unfold capsText; rw [if_pos h])
  unfold TxtRes
  rw [HC.out]
  generalize capsText d = tx at H1 H2 ⊢
  generalize (⟨(capsL d).toArray⟩ : ByteArray) = ty at K2 H2
  generalize disCode d = cd at K1 K2 H1 H2 ⊢
  clear h hs HC
  by_cases h0 : cd = 0
  · have K3 := Lib.hid (K2.out h0)
    obtain rfl := H2.out h0
    clear K2 H1 H2
    subst h0
    go_enter Tryz.func47, Tryz.ntmps47
    go_wp2_with fail
    refine (K1.out _ B0).mono ?_
    rintro en w1 ⟨rfl, hb1⟩
    have V1 := Lib.hid (V0.out.below hb1)
    have HB1 := Lib.hid hb1
    clear hb1
    go_wp2_with fail
    refine (K3.out _ V1.out).mono ?_
    rintro en w2 ⟨rfl, hb2⟩
    have hbx := below_then HB1.out hb2
    obtain ⟨hc1, hf1⟩ := bcell hbx
    have hz : w.heap.size + 1 < w2.heap.size := by have := hbx.size; simp at this; omega
    have B1 := Lib.hid (below_then B0 hbx)
    clear hbx hb2
    go_wp2
    exact bodyPost_ret (v := .agg #[.int .i64 0, .string tx]) (by simp [results, Tryz.results47, go_sem, hc1]) rfl ⟨rfl, (B1.out.setCell (by simp) _).setCell (by simp) _⟩
  · obtain rfl := H1.out h0
    have h0b : (cd != 0) = true := by rw [bne_iff_ne]; exact h0
    clear H1 H2 K2
    go_enter Tryz.func47, Tryz.ntmps47
    go_wp2_with fail
    refine (K1.out _ B0).mono ?_
    rintro en w1 ⟨rfl, hb1⟩
    obtain ⟨hc1, hf1⟩ := bcell hb1
    have hz : w.heap.size + 1 < w1.heap.size := by have := hb1.size; simp at this; omega
    have B1 := Lib.hid (below_then B0 hb1)
    clear hb1
    go_wp2
    exact bodyPost_ret (v := .agg #[.int .i64 cd, .string ByteArray.empty]) (by simp [results, Tryz.results47, go_sem, hc1]; rfl) rfl ⟨rfl, (B1.out.setCell (by simp) _).setCell (by simp) _⟩
end Go.Proofs.YtmmicoiiklcakaaGreatDoor

/- Plain words on a digest. -/
namespace Go.Proofs.YtmmicoiiklcakaaGreatDoor
set_option linter.unusedVariables false

def In32 (x : Int) : Prop := 0 ≤ x ∧ x ≤ 4294967295
def rotI (x : Int) (k : Nat) : Int := bits .or .u32 (x * 2 ^ k % 4294967296) (x / 2 ^ (32 - k))
def mixF (t : Nat) (b c d : Int) : Int :=
  if t < 20 then bits .or .u32 (bits .and .u32 b c) (bits .and .u32 (bits .xor .u32 IntKind.u32.max b) d) else
  if t < 40 then bits .xor .u32 (bits .xor .u32 b c) d else
  if t < 60 then bits .or .u32 (bits .or .u32 (bits .and .u32 b c) (bits .and .u32 b d)) (bits .and .u32 c d) else
  bits .xor .u32 (bits .xor .u32 b c) d
def mixK (t : Nat) : Int := if t < 20 then 1518500249 else if t < 40 then 1859775393 else if t < 60 then 2400959708 else 3395469782
structure St5 where
  a : Int
  b : Int
  c : Int
  d : Int
  e : Int
def St5.list (s : St5) : List Int := [s.a, s.b, s.c, s.d, s.e]
def St5.In (s : St5) : Prop := In32 s.a ∧ In32 s.b ∧ In32 s.c ∧ In32 s.d ∧ In32 s.e
def stepT (t : Nat) (s : St5) (w : Int) : St5 := ⟨(rotI s.a 5 + mixF t s.b s.c s.d + s.e + mixK t + w) % 4294967296, s.a, rotI s.b 30, s.c, s.d⟩
theorem bits_in (o : BinOp) (a b : Int) : In32 (bits o .u32 a b) := ⟨bits_lo_u32 o a b, bits_hi_u32 o a b⟩
theorem rotI_in (x : Int) (k : Nat) : In32 (rotI x k) := bits_in _ _ _
theorem mixF_in (t : Nat) (b c d : Int) : In32 (mixF t b c d) := by
  unfold mixF
  split
  · exact bits_in _ _ _
  split
  · exact bits_in _ _ _
  split
  · exact bits_in _ _ _
  · exact bits_in _ _ _
theorem mod_in (x : Int) : In32 (x % 4294967296) := by unfold In32; omega
theorem stepT_in (t : Nat) {s : St5} (w : Int) (h : s.In) : (stepT t s w).In := ⟨mod_in _, h.1, rotI_in _ _, h.2.2.1, h.2.2.2.1⟩
/-- the first m bytes of word j, as a number -/
def pw (bs : List Int) (j : Nat) : Nat → Int
  | 0 => 0
  | m + 1 => (pw bs j m * 256 + bs.getD (4 * j + m) 0) % 4294967296
theorem pw_in (bs : List Int) (j m : Nat) : In32 (pw bs j m) := by
  cases m with
  | zero => exact ⟨by simp [pw], by simp [pw]⟩
  | succ m => exact mod_in _
/-- the first words -/
def sched (bs : List Int) : Nat → List Int
  | 0 => []
  | t + 1 => sched bs t ++ [if t < 16 then pw bs t 4 else rotI (bits .xor .u32 (bits .xor .u32 (bits .xor .u32 ((sched bs t).getD (t - 3) 0) ((sched bs t).getD (t - 8) 0)) ((sched bs t).getD (t - 14) 0)) ((sched bs t).getD (t - 16) 0)) 1]
theorem sched_length (bs : List Int) (n : Nat) : (sched bs n).length = n := by
  induction n with
  | zero => rfl
  | succ n ih => simp [sched, ih]
def wd (bs : List Int) (t : Nat) : Int := (sched bs (t + 1)).getD t 0
theorem sched_getD (bs : List Int) (n t : Nat) (h : t < n) : (sched bs n).getD t 0 = wd bs t := by
  induction n with
  | zero => omega
  | succ n ih =>
    by_cases e : t = n
    · subst e; rfl
    · rw [← ih (by omega)]
      simp only [sched]
      rw [List.getD_eq_getElem?_getD, List.getElem?_append_left (by rw [sched_length]; omega), ← List.getD_eq_getElem?_getD]
theorem wd_low (bs : List Int) (t : Nat) (h : t < 16) : wd bs t = pw bs t 4 := by
  unfold wd
  simp only [sched]
  rw [List.getD_eq_getElem?_getD, List.getElem?_append_right (by rw [sched_length]; exact Nat.le_refl _), sched_length, Nat.sub_self, if_pos h]
  rfl
theorem wd_high (bs : List Int) (t : Nat) (h : 16 ≤ t) : wd bs t = rotI (bits .xor .u32 (bits .xor .u32 (bits .xor .u32 (wd bs (t - 3)) (wd bs (t - 8))) (wd bs (t - 14))) (wd bs (t - 16))) 1 := by
  rw [← sched_getD bs t (t - 3) (by omega), ← sched_getD bs t (t - 8) (by omega), ← sched_getD bs t (t - 14) (by omega), ← sched_getD bs t (t - 16) (by omega)]
  conv => lhs; unfold wd
  simp only [sched]
  rw [List.getD_eq_getElem?_getD, List.getElem?_append_right (by rw [sched_length]; exact Nat.le_refl _), sched_length, Nat.sub_self, if_neg (by omega)]
  rfl
theorem wd_in (bs : List Int) (t : Nat) : In32 (wd bs t) := by
  by_cases h : t < 16
  · rw [wd_low bs t h]; exact pw_in _ _ _
  · rw [wd_high bs t (by omega)]; exact rotI_in _ _
/-- the letters behind t steps -/
def turns (bs : List Int) (s : St5) : Nat → St5
  | 0 => s
  | t + 1 => stepT t (turns bs s t) (wd bs t)
theorem turns_in (bs : List Int) {s : St5} (h : s.In) (t : Nat) : (turns bs s t).In := by
  induction t with
  | zero => exact h
  | succ t ih => exact stepT_in _ _ ih
def addS (s t : St5) : St5 := ⟨(s.a + t.a) % 4294967296, (s.b + t.b) % 4294967296, (s.c + t.c) % 4294967296, (s.d + t.d) % 4294967296, (s.e + t.e) % 4294967296⟩
theorem addS_in (s t : St5) : (addS s t).In := ⟨mod_in _, mod_in _, mod_in _, mod_in _, mod_in _⟩
def withB (s : St5) (bs : List Int) : St5 := addS s (turns bs s 80)
def sha0 : St5 := ⟨1732584193, 4023233417, 2562383102, 271733878, 3285377520⟩
theorem sha0_in : sha0.In := by refine ⟨?_, ?_, ?_, ?_, ?_⟩ <;> (unfold In32 sha0; decide)
def blkAt (p : List Int) (k : Nat) : List Int := (p.drop (64 * k)).take 64
def shaSt (p : List Int) : Nat → St5
  | 0 => sha0
  | k + 1 => withB (shaSt p k) (blkAt p k)
theorem shaSt_in (p : List Int) (k : Nat) : (shaSt p k).In := by
  cases k with
  | zero => exact sha0_in
  | succ k => exact addS_in _ _
/-- how many noughts fill the last block -/
def fills (n : Nat) : Nat := (119 - n % 64) % 64
/-- the lowest bytes of a number, the highest first -/
def highs (n : Int) : Nat → List Int
  | 0 => []
  | k + 1 => n / 2 ^ (8 * k) % 256 :: highs n k
def padL (xs : List Int) : List Int := xs ++ [128] ++ List.replicate (fills xs.length) 0 ++ highs (8 * xs.length) 8
theorem highs_length (n : Int) (k : Nat) : (highs n k).length = k := by induction k with | zero => rfl | succ k ih => simp [highs, ih]
theorem padL_length (xs : List Int) : (padL xs).length = 64 * ((xs.length + 72) / 64) := by
  unfold padL fills
  simp only [List.length_append, List.length_replicate, highs_length, List.length_cons, List.length_nil]
  omega
def wordB (x : Int) : List Int := highs x 4
def shaL (xs : List Int) : List Int :=
  let s := shaSt (padL xs) ((xs.length + 72) / 64)
  wordB s.a ++ wordB s.b ++ wordB s.c ++ wordB s.d ++ wordB s.e
theorem shaL_length (xs : List Int) : (shaL xs).length = 20 := by simp [shaL, wordB, highs_length]
def shaCode (xs : List Int) : Int := if 3000 < xs.length then 2 else 0
def shaBytes (xs : List Int) : List Int := if 3000 < xs.length then [] else shaL xs
theorem highs_mem (n : Int) (k : Nat) : ∀ x ∈ highs n k, 0 ≤ x ∧ x ≤ 255 := by
  induction k with
  | zero => intro x hx; cases hx
  | succ k ih =>
    intro x hx
    rcases List.mem_cons.1 hx with rfl | hx
    · constructor <;> omega
    · exact ih x hx
theorem shaL_mem (xs : List Int) : ∀ x ∈ shaL xs, 0 ≤ x ∧ x ≤ 255 := by
  intro x hx
  unfold shaL wordB at hx
  simp only [List.mem_append] at hx
  rcases hx with (((h | h) | h) | h) | h
  all_goals exact highs_mem _ _ x h
theorem padL_mem {xs : List Int} (h : ∀ x ∈ xs, 0 ≤ x ∧ x ≤ 255) : ∀ x ∈ padL xs, 0 ≤ x ∧ x ≤ 255 := by
  intro x hx
  unfold padL at hx
  simp only [List.mem_append, List.mem_cons, List.mem_nil_iff, or_false] at hx
  rcases hx with ((h1 | rfl) | h1) | h1
  · exact h x h1
  · decide
  · rw [(List.mem_replicate.1 h1).2]; decide
  · exact highs_mem _ _ x h1
end Go.Proofs.YtmmicoiiklcakaaGreatDoor

/- Plain words on what is written in base 64. -/
namespace Go.Proofs.YtmmicoiiklcakaaGreatDoor
set_option linter.unusedVariables false

def b64Signs : ByteArray := { data := #[65, 66, 67, 68, 69, 70, 71, 72, 73, 74, 75, 76, 77, 78, 79, 80, 81, 82, 83, 84, 85, 86, 87, 88, 89, 90, 97, 98, 99, 100, 101, 102, 103, 104, 105, 106, 107, 108, 109, 110, 111, 112, 113, 114, 115, 116, 117, 118, 119, 120, 121, 122, 48, 49, 50, 51, 52, 53, 54, 55, 56, 57, 43, 47] }
/-- a group of up to three bytes as a number -/
def grpN (g : List Int) : Int := g.getD 0 0 * 65536 + g.getD 1 0 * 256 + g.getD 2 0
/-- the i-th sign of a group -/
def grpS (g : List Int) (i : Nat) : UInt8 := if g.length < i then 61 else b64Signs.data.toList.getD (grpN g / 2 ^ (18 - 6 * i) % 64).toNat 0
def grpL (g : List Int) : List UInt8 := [grpS g 0, grpS g 1, grpS g 2, grpS g 3]
/-- the group at a place -/
def grpAt (xs : List Int) (k : Nat) : List Int := (xs.drop (3 * k)).take 3
def b64N (xs : List Int) : Nat := (xs.length + 2) / 3
def b64Pre (xs : List Int) (k : Nat) : List UInt8 := (List.range k).flatMap fun i => grpL (grpAt xs i)
def b64L (xs : List Int) : List UInt8 := b64Pre xs (b64N xs)
theorem b64Pre_succ (xs : List Int) (k : Nat) : b64Pre xs (k + 1) = b64Pre xs k ++ grpL (grpAt xs k) := by simp [b64Pre, List.range_succ]
theorem b64Pre_length (xs : List Int) (k : Nat) : (b64Pre xs k).length = 4 * k := by
  induction k with
  | zero => rfl
  | succ k ih => rw [b64Pre_succ, List.length_append, ih]; simp [grpL]; omega
theorem grpN_bounds {g : List Int} (h : ∀ x ∈ g, 0 ≤ x ∧ x ≤ 255) : 0 ≤ grpN g ∧ grpN g ≤ 16777215 := by
  have k : ∀ i, 0 ≤ g.getD i 0 ∧ g.getD i 0 ≤ 255 := fun i => by
    rw [List.getD_eq_getElem?_getD]
    rcases Nat.lt_or_ge i g.length with hi | hi
    · rw [List.getElem?_eq_getElem hi]
      exact h _ (List.getElem_mem hi)
    · rw [List.getElem?_eq_none hi]
      decide
  have := k 0
  have := k 1
  have := k 2
  unfold grpN
  omega
theorem grpAt_mem {xs : List Int} (h : ∀ x ∈ xs, 0 ≤ x ∧ x ≤ 255) (k : Nat) : ∀ x ∈ grpAt xs k, 0 ≤ x ∧ x ≤ 255 :=
  fun x hx => h x (List.mem_of_mem_drop (List.mem_of_mem_take hx))
theorem grpAt_length (xs : List Int) (k : Nat) : (grpAt xs k).length = min 3 (xs.length - 3 * k) := by simp [grpAt]
theorem grpAt_getD (xs : List Int) (k i : Nat) (hi : i < 3) : (grpAt xs k).getD i 0 = xs.getD (3 * k + i) 0 := by
  unfold grpAt
  rw [List.getD_eq_getElem?_getD, List.getD_eq_getElem?_getD, List.getElem?_take, if_pos hi, List.getElem?_drop]
def b64Code (xs : List Int) : Int := if 3000 < xs.length then 2 else 0
def b64Text (xs : List Int) : ByteArray := if 3000 < xs.length then ByteArray.empty else ⟨(b64L xs).toArray⟩
end Go.Proofs.YtmmicoiiklcakaaGreatDoor

/- What has no fault is short: the name of what somebody can do, in plain words. -/
namespace Go.Proofs.YtmmicoiiklcakaaGreatDoor
set_option linter.unusedVariables false

theorem textFault_len {l : List UInt8} (h : textFault l = 0) : l.length ≤ 60 := by
  unfold textFault at h
  by_cases h6 : 60 < l.length
  · rw [if_pos h6] at h; cases h
  · omega
theorem fieldB_len {s : ByteArray} {e sl : Bool} (h : fieldB s e sl = true) : s.size ≤ 60 := by
  unfold fieldB fldB at h
  simp only [Bool.and_eq_true, beq_iff_eq] at h
  have := textFault_len h.1.1.1
  simpa using this
theorem identT_len {x : Ident} (h : identB x = true) : (identT x).size ≤ 243 := by
  unfold identB at h
  simp only [Bool.and_eq_true] at h
  have h1 := fieldB_len h.1.1.1
  have h2 := fieldB_len h.1.1.2
  have h3 := fieldB_len h.1.2
  have h4 := fieldB_len h.2
  unfold identT
  simp only [ByteArray.size_append]
  have : slash.size = 1 := rfl
  omega
theorem linesT_few : ∀ (l : List ByteArray) (m : Nat), (∀ x ∈ l, x.size ≤ m) → (linesT l).length ≤ (m + 1) * l.length
  | [], m, _ => by simp [linesT]
  | x :: l, m, h => by
    have h1 := h x (List.mem_cons_self ..)
    have h2 := linesT_few l m (fun y hy => h y (List.mem_cons_of_mem _ hy))
    have e1 : x.data.toList.length = x.size := rfl
    have e2 : linesT (x :: l) = (x.data.toList ++ [60]) ++ linesT l := by simp [linesT]
    rw [e2]
    simp only [List.length_append, e1, List.length_cons, List.length_nil, Nat.mul_add]
    omega
theorem dis_right {d : Dis} (h : disCode d = 0) : d.ids.length ≤ 6 ∧ d.feats.length ≤ 10 ∧ (∀ i, i < d.ids.length → identB (d.ids.getD i dId) = true) ∧ (∀ i, i < d.feats.length → fieldB (d.feats.getD i ByteArray.empty) false true = true) := by
  unfold disCode at h
  by_cases hm : manyD d = true
  · rw [if_pos hm] at h; cases h
  rw [if_neg hm] at h
  by_cases hw : wrongD d = true
  · rw [if_pos hw] at h; cases h
  unfold manyD at hm
  simp at hm
  unfold wrongD at hw
  rw [Bool.not_eq_true, Bool.or_eq_false_iff, Bool.not_eq_false', Bool.not_eq_false', List.all_eq_true, List.all_eq_true] at hw
  exact ⟨hm.1, hm.2, fun i hi => hw.1 i (List.mem_range.2 hi), fun i hi => hw.2 i (List.mem_range.2 hi)⟩
theorem caps_len {d : Dis} (h : disCode d = 0) : (capsL d).length ≤ 3000 := by
  obtain ⟨h1, h2, h3, h4⟩ := dis_right h
  unfold capsL
  rw [List.length_append]
  have a1 := linesT_few (sortT (d.ids.map identT)) 243 (fun x hx => by
    obtain ⟨y, hy, rfl⟩ := List.mem_map.1 ((sortT_perm _).mem_iff.1 hx)
    obtain ⟨i, hi, rfl⟩ := List.getElem_of_mem hy
    have := h3 i hi
    rw [List.getD_eq_getElem?_getD, List.getElem?_eq_getElem hi] at this
    exact identT_len this)
  have a2 := linesT_few (sortT d.feats) 60 (fun x hx => by
    obtain ⟨i, hi, rfl⟩ := List.getElem_of_mem ((sortT_perm _).mem_iff.1 hx)
    have := h4 i hi
    rw [List.getD_eq_getElem?_getD, List.getElem?_eq_getElem hi] at this
    exact fieldB_len this)
  rw [(sortT_perm _).length_eq] at a1 a2
  rw [List.length_map] at a1
  omega
/-- the name -/
def capsNums (d : Dis) : List Int := (capsL d).map fun u => (u.toNat : Int)
def capsName (d : Dis) : ByteArray := if disCode d = 0 then ⟨(b64L (shaL (capsNums d))).toArray⟩ else ByteArray.empty
theorem capsNums_len (d : Dis) : (capsNums d).length = (capsL d).length := by simp [capsNums]
theorem capsNums_byte (d : Dis) (i : Nat) : 0 ≤ (capsNums d).getD i 0 ∧ (capsNums d).getD i 0 ≤ 255 := by
  unfold capsNums
  rw [List.getD_eq_getElem?_getD, List.getElem?_map]
  cases (capsL d)[i]? with
  | none => simp
  | some u =>
    have := u.toNat_lt
    simp
    omega
end Go.Proofs.YtmmicoiiklcakaaGreatDoor
