/- The model's l9String. -/
import Derived.Test.YtcaknhoaoodbfaaGreatDoorGC31
import Derived.Test.YtcaknhoaoodbfaaGreatDoorGC23
import Derived.Test.YtcaknhoaoodbfaaGreatDoorGC19
import Derived.Deep.RegionHeld3
import Derived.Test.YtcaknhoaoodbfaaGreatDoorGC24
import Derived.Test.YtcaknhoaoodbfaaGreatDoorGC0
import Derived.Test.YtcaknhoaoodbfaaGreatDoorGC26
import Derived.Test.YtcaknhoaoodbfaaGreatDoorGC4
namespace Go.Proofs.YtcaknhoaoodbfaaGreatDoor
open Go.ChangeShapes Go.WideShapes Go.ChangeAt Go.RowKit
set_option linter.unusedVariables false

theorem sts_owned {w : World} {B n c : Nat} {a : Option Addr} {L : List ByteArray} (hn : n ≤ 1000000) (h : w.ownsRow B 9 1 (.slice a n c) n (L.map Value.string)) : StsAt w a n c L := by
  have hl : L.length = n := by have h1 : (L.map Value.string).length = n * 1 := h.1; simpa using h1
  refine ⟨hl, by omega, ?_⟩
  by_cases h0 : n = 0
  · exact .inl h0
  · obtain ⟨g, rfl⟩ : ∃ g, a = some ⟨g, 0, none⟩ := by
      rcases h.2 with ⟨hv, h1⟩ | ⟨g, cap, cur, hv, _⟩
      · omega
      · simp only [Value.slice.injEq] at hv
        exact ⟨g, hv.1⟩
    exact .inr ⟨g, 0, rfl, (h.lt g rfl).2, fun i hi => by rw [Nat.zero_add]; exact own_cell h i hi⟩
theorem linesT_len : ∀ (l : List ByteArray), (∀ x ∈ l, x.size ≤ 5000000) → (linesT l).length ≤ 5000001 * l.length
  | [], _ => by simp [linesT]
  | x :: l, h => by
    have h1 := h x (List.mem_cons_self ..)
    have h2 := linesT_len l (fun y hy => h y (List.mem_cons_of_mem _ hy))
    have e1 : x.data.toList.length = x.size := rfl
    have e2 : linesT (x :: l) = (x.data.toList ++ [60]) ++ linesT l := by simp [linesT]
    rw [e2]
    simp only [List.length_append, e1, List.length_cons, List.length_nil]
    omega
theorem sorted_len {l : List ByteArray} (h : ∀ i, i < l.length → (l.getD i ByteArray.empty).size ≤ 5000000) : (linesT (sortT l)).length ≤ 5000001 * l.length := by
  have := linesT_len (sortT l) (fun x hx => by
    obtain ⟨i, hi, rfl⟩ := List.getElem_of_mem ((sortT_perm l).mem_iff.1 hx)
    have := h i hi
    rwa [List.getD_eq_getElem?_getD, List.getElem?_eq_getElem hi] at this)
  rwa [(sortT_perm l).length_eq] at this
theorem identT_size {x : Ident} (h : SmallId x) : (identT x).size ≤ 5000000 := by
  obtain ⟨h1, h2, h3, h4⟩ := h
  unfold identT
  simp only [ByteArray.size_append, show slash.size = 1 from rfl]
  omega

theorem held2S {w0 W W' : World} {p1 p2 : Addr} {v1 v2 : Value} (hb : Below W.heap.size W W')
    (h : Below w0.heap.size w0 W ∧ W.cell? p1 = some v1 ∧ W.cell? p2 = some v2) :
    Below w0.heap.size w0 W' ∧ W'.cell? p1 = some v1 ∧ W'.cell? p2 = some v2 :=
  ⟨below_then h.1 hb, (hb.cell (World.block_lt_of_cell? W _ h.2.1)).trans h.2.1, (hb.cell (World.block_lt_of_cell? W _ h.2.2)).trans h.2.2⟩

set_option maxRecDepth 100000 in
set_option maxHeartbeats 6400000 in
theorem l9String_any (p : Nat) (a1 a2 : Option Addr) (n1 c1 n2 c2 : Nat) (d : Dis) (w : World) (hs : SmallDis d) (hn1 : n1 ≤ 1000) (hn2 : n2 ≤ 1000) (h : DisVar w p a1 n1 c1 a2 n2 c2 d) :
    Calls Tryz.prog 97 #[.pointer (some ⟨p, 0, none⟩)] w fun e w' => e = .returned (.string ⟨(capsL d).toArray⟩) ∧ Below w.heap.size w w' := by
  obtain ⟨i0, hi, hz0, hz1, hz2⟩ := info_parts strInfoD
  have hl0 : (w.alloc (.cells #[] 9)).ownsRow w.heap.size 9 1 (.slice (some ⟨w.heap.size, 0, none⟩) 0 0) 0 ((([] : List Ident).map identT).map Value.string) := by
    have := World.ownsRow_lit (base := w.heap.size) (e := 9) (size := 1) w #[] 0 (Nat.le_refl _) (by unfold maxLen; omega) rfl
    simpa using this
  have HO0 := Lib.hid hl0
  have HV0 := Lib.hid h
  have HL := Lib.hid h.at_.ids.len
  have HL2 := Lib.hid h.at_.feats.len
  have v0 := (h.below (below1 w (.cells #[] 9))).v0
  have hpl := h.lt
  have HS1 := Lib.hid hs.1.2
  have HS2 := Lib.hid hs.2.2
  clear hl0 h hs
  unfold capsL
  go_enter Tryz.func97, Tryz.ntmps97
  go_wp2
  go_loopw [3, 11] (fun v i wr => ∃ (k : Nat) (a' : Option Addr) (c' : Nat), k ≤ n1 ∧ i = .int .i64 k ∧ v = .slice a' k c' ∧ wr.ownsRow w.heap.size 9 1 (.slice a' k c') k (((d.ids.take k).map identT).map Value.string) ∧ Below w.heap.size w wr) (fun _ i _ => n1 - (intOf i).toNat)
  case atStart => exact ⟨0, _, 0, Nat.zero_le _, rfl, rfl, HO0.out, below1 _ _⟩
  case round =>
    clear HO0 v0
    obtain ⟨k, a', c', hk, rfl, rfl, ho, hb⟩ := hrel
    have HO := Lib.hid ho
    have HB := Lib.hid hb
    have HV := Lib.hid (HV0.out.below hb)
    have hsz := hb.size
    have v0 := HV.out.v0
    have v1 := HV.out.v1
    clear ho hb
    by_cases hlt : k < n1
    · rcases HV.out.at_.ids.row with e0 | ⟨b, o, rfl, hrow⟩
      · omega
      have K := Lib.hid (l9Text_any b (o + k * 4) (d.ids.getD k dId) wr (HS1.out k (by have := HL.out; omega)) (hrow k hlt))
      have HT : Hid (((d.ids.take (k + 1)).map identT).map Value.string = ((d.ids.take k).map identT).map Value.string ++ [.string (identT (d.ids.getD k dId))]) := Lib.hid (by
        rw [List.take_succ_eq_append_getElem (by have := HL.out; omega), List.getD_eq_getElem?_getD, List.getElem?_eq_getElem (by have := HL.out; omega), List.map_append, List.map_append]
        rfl)
      generalize identT (d.ids.getD k dId) = x at K HT
      have q1 : (k : Int) < (n1 : Int) := by omega
      clear hrow
      go_wp2_with fail
      refine K.out.mono ?_
      rintro e w1 ⟨rfl, nd, rfl⟩
      have HO1 := Lib.hid (owns_below HO.out (below_drewN (Below.refl _ _) nd))
      have HB1 := Lib.hid (below_drewN HB.out nd)
      have hsz1 := HB1.out.size
      generalize wr.drewN nd = w1 at HO1 HB1 hsz1 ⊢
      clear K
      go_wp2_with (at_builtin; refine wpList_append_own _ rfl _ _ 48 rfl w.heap.size 9 i0 (.string ByteArray.empty) 1 16 Tryz.underlying48 hi hz0 hz1 hz2 rfl (by decide) _ k _ rfl (HO1.out.alloc _) ⟨w1.heap.size, 0, none⟩ 1 1 [.string x] rfl rfl (one_str w1 x) (by simp [Value.oneCell']) (by unfold maxLen; omega) (by omega) (by simp; omega) ?_)
      intro v' w2 hown hgrow _
      obtain ⟨a2', c2', rfl⟩ := owns_slice hown
      have HO2 := Lib.hid hown
      have HB2 := Lib.hid (below_appended HB1.out HO1.out hgrow)
      clear hown hgrow
      go_wp2
      go_roundw
      case rel => exact ⟨k + 1, _, _, by omega, by go_num, rfl, by rw [HT.out]; simpa [List.map_map, List.map_take] using HO2.out, HB2.out⟩
      case measure => simp [intOf]; omega
    · obtain rfl : k = n1 := by omega
      have hall : d.ids.take k = d.ids := List.take_of_length_le (by have := HL.out; omega)
      have HS3 := HO.out
      rw [hall] at HS3
      have HO3 := Lib.hid HS3
      have K1 := Lib.hid (fun W (hb : Below wr.heap.size wr W) => l9Sorted_any a' k c' (d.ids.map identT) W hn1 (fun i hi => by
        rw [show (d.ids.map identT).getD i ByteArray.empty = identT (d.ids.getD i dId) by rw [List.getD_eq_getElem?_getD, List.getD_eq_getElem?_getD, List.getElem?_map, List.getElem?_eq_getElem (by have := HL.out; omega)]; rfl]
        exact identT_size (HS1.out i (by have := HL.out; omega))) (sts_owned (by omega) (owns_below HO3.out hb)))
      have K2 := Lib.hid (fun W (hb : Below wr.heap.size wr W) => l9Sorted_any a2 n2 c2 d.feats W hn2 (fun i hi => Nat.le_trans (HS2.out i (by have := HL2.out; omega)) (by decide)) (HV.out.at_.feats.below hb))
      have z1 : (linesT (sortT (d.ids.map identT))).length ≤ 5000001 * 1000 := Nat.le_trans (sorted_len (fun i hi => by
        rw [List.length_map] at hi
        rw [show (d.ids.map identT).getD i ByteArray.empty = identT (d.ids.getD i dId) by rw [List.getD_eq_getElem?_getD, List.getD_eq_getElem?_getD, List.getElem?_map, List.getElem?_eq_getElem hi]; rfl]
        exact identT_size (HS1.out i hi))) (Nat.mul_le_mul_left _ (by rw [List.length_map]; have := HL.out; omega))
      have z2 : (linesT (sortT d.feats)).length ≤ 5000001 * 1000 := Nat.le_trans (sorted_len (fun i hi => Nat.le_trans (HS2.out i hi) (by decide))) (Nat.mul_le_mul_left _ (by have := HL2.out; omega))
      have hs1 : (⟨(linesT (sortT (d.ids.map identT))).toArray⟩ : ByteArray).size ≤ 5000001000 := by show (linesT _).toArray.size ≤ _; rw [List.size_toArray]; exact z1
      have hs2 : (⟨(linesT (sortT d.feats)).toArray⟩ : ByteArray).size ≤ 5000001000 := by show (linesT _).toArray.size ≤ _; rw [List.size_toArray]; exact z2
      have HAP : Hid ((⟨(linesT (sortT (d.ids.map identT))).toArray⟩ : ByteArray) ++ (⟨(linesT (sortT d.feats)).toArray⟩ : ByteArray) = ⟨(linesT (sortT (d.ids.map identT)) ++ linesT (sortT d.feats)).toArray⟩) := Lib.hid (by apply ByteArray.ext; simp)
      clear z1 z2 HS3
      obtain ⟨tx, htx⟩ : ∃ tx, (⟨(linesT (sortT (d.ids.map identT)) ++ linesT (sortT d.feats)).toArray⟩ : ByteArray) = tx := ⟨_, rfl⟩
      have HTX := Lib.hid htx
      rw [htx] at HAP
      clear htx
      generalize (⟨(linesT (sortT (d.ids.map identT))).toArray⟩ : ByteArray) = s1 at K1 hs1 HAP
      generalize (⟨(linesT (sortT d.feats)).toArray⟩ : ByteArray) = s2 at K2 hs2 HAP
      have hsum : ¬ 9223372036854775807 < s1.size + s2.size := by omega
      have hpw : p < wr.heap.size := by omega
      go_wp2_with fail
      have hS0 : Below wr.heap.size wr wr.drew ∧ wr.drew.cell? ⟨p, 0, none⟩ = some (.slice a1 k c1) ∧ wr.drew.cell? ⟨p, 1, none⟩ = some (.slice a2 n2 c2) := ⟨(Below.refl _ _).drew, v0, v1⟩
      (go_region_held3 (fun W => Below wr.heap.size wr W ∧ W.cell? ⟨p, 0, none⟩ = some (.slice a1 k c1) ∧ W.cell? ⟨p, 1, none⟩ = some (.slice a2 n2 c2)) (first | assumption | exact held2S hbr (by assumption))
        (first
          | (go_at_call 169; (with_reducible refine (K1.out _ (And.left (by assumption))).mono ?_); rintro e wx ⟨rfl, hbr⟩)
          | (go_at_call 169; (with_reducible refine (K2.out _ (And.left (by assumption))).mono ?_); rintro e wy ⟨rfl, hbr⟩)))
      have hBf : Below wr.heap.size wr wy := And.left (by assumption)
      go_wp2
      go_ret
      exact ⟨by rw [HTX.out, ← HAP.out]; first | done | rfl, below_then HB.out hBf⟩
end Go.Proofs.YtcaknhoaoodbfaaGreatDoor

/- spec.CapsString. -/
namespace Go.Proofs.YtcaknhoaoodbfaaGreatDoor
open Go.ChangeShapes Go.WideShapes Go.ChangeAt Go.RowKit
set_option linter.unusedVariables false

theorem few_d {d : Dis} (h : disCode d = 0) : d.ids.length ≤ 6 ∧ d.feats.length ≤ 10 := by
  unfold disCode at h
  by_cases hm : manyD d = true
  · rw [if_pos hm] at h
    cases h
  · unfold manyD at hm
    simp at hm
    exact hm

set_option maxRecDepth 100000 in
set_option maxHeartbeats 1600000 in
theorem specCapsString_any (a1 a2 : Option Addr) (n1 c1 n2 c2 : Nat) (d : Dis) (w : World) (hs : SmallDis d) (h : DisAt w a1 n1 c1 a2 n2 c2 d) :
    Calls Tryz.prog 43 #[.agg #[.slice a1 n1 c1, .slice a2 n2 c2]] w (TxtRes w (capsCode d) (capsText d)) := by
  have B0 := below2 w (.cells #[.slice a1 n1 c1, .slice a2 n2 c2] 50) (.cells #[.int .i64 0, .string { data := #[] }] 42)
  have V0 := Lib.hid ((show DisVar (w.alloc (.cells #[.slice a1 n1 c1, .slice a2 n2 c2] 50)) w.heap.size a1 n1 c1 a2 n2 c2 d from ⟨by simp, by simp, by simp, h.below (below1 _ _)⟩).below (below1 _ (.cells #[.int .i64 0, .string { data := #[] }] 42)))
  have K1 := Lib.hid (fun W (hb : Below w.heap.size w W) => specDiscoFault_any a1 a2 n1 c1 n2 c2 d W hs (h.below hb))
  have K2 := Lib.hid (fun (h0 : disCode d = 0) W (hv : DisVar W w.heap.size a1 n1 c1 a2 n2 c2 d) => l9String_any w.heap.size a1 a2 n1 c1 n2 c2 d W hs (by have := few_d h0; have := h.ids.len; omega) (by have := few_d h0; have := h.feats.len; omega) hv)
  have HC : Hid (capsCode d = disCode d) := Lib.hid rfl
  have H1 : Hid (disCode d ≠ 0 → capsText d = ByteArray.empty) := Lib.hid (fun h => by unfold capsText; rw [if_neg h])
  have H2 : Hid (disCode d = 0 → capsText d = ⟨(capsL d).toArray⟩) := Lib.hid (fun h => by unfold capsText; rw [if_pos h])
  unfold TxtRes
  rw [HC.out]
  generalize capsText d = tx at H1 H2 ⊢
  generalize (⟨(capsL d).toArray⟩ : ByteArray) = ty at K2 H2
  generalize disCode d = cd at K1 K2 H1 H2 ⊢
  clear h hs HC
  by_cases h0 : cd = 0
  · have K3 := Lib.hid (K2.out h0)
    obtain rfl := H2.out h0
    clear K2 H1 H2
    subst h0
    go_enter Tryz.func43, Tryz.ntmps43
    go_wp2_with fail
    refine (K1.out _ B0).mono ?_
    rintro en w1 ⟨rfl, hb1⟩
    have V1 := Lib.hid (V0.out.below hb1)
    have HB1 := Lib.hid hb1
    clear hb1
    go_wp2_with fail
    refine (K3.out _ V1.out).mono ?_
    rintro en w2 ⟨rfl, hb2⟩
    have hbx := below_then HB1.out hb2
    obtain ⟨hc1, hf1⟩ := bcell hbx
    have hz : w.heap.size + 1 < w2.heap.size := by have := hbx.size; simp at this; omega
    have B1 := Lib.hid (below_then B0 hbx)
    clear hbx hb2
    go_wp2
    exact bodyPost_ret (v := .agg #[.int .i64 0, .string tx]) (by simp [results, Tryz.results43, go_sem, hc1]) rfl ⟨rfl, (B1.out.setCell (by simp) _).setCell (by simp) _⟩
  · obtain rfl := H1.out h0
    have h0b : (cd != 0) = true := by rw [bne_iff_ne]; exact h0
    clear H1 H2 K2
    go_enter Tryz.func43, Tryz.ntmps43
    go_wp2_with fail
    refine (K1.out _ B0).mono ?_
    rintro en w1 ⟨rfl, hb1⟩
    obtain ⟨hc1, hf1⟩ := bcell hb1
    have hz : w.heap.size + 1 < w1.heap.size := by have := hb1.size; simp at this; omega
    have B1 := Lib.hid (below_then B0 hb1)
    clear hb1
    go_wp2
    exact bodyPost_ret (v := .agg #[.int .i64 cd, .string ByteArray.empty]) (by simp [results, Tryz.results43, go_sem, hc1]; rfl) rfl ⟨rfl, (B1.out.setCell (by simp) _).setCell (by simp) _⟩
end Go.Proofs.YtcaknhoaoodbfaaGreatDoor

/- The fields of a code and a text. -/
namespace Go.Proofs.YtcaknhoaoodbfaaGreatDoor
open Go.ChangeShapes Go.WideShapes Go.ChangeAt Go.RowKit
set_option linter.unusedVariables false
theorem field_code (c : Int) (t : ByteArray) (W : World) : (Instr.field 42 (.agg #[.int .i64 c, .string t]) 0).run Tryz.prog W = .ok (.int .i64 c) W := by kernel_rfl
theorem field_text (c : Int) (t : ByteArray) (W : World) : (Instr.field 42 (.agg #[.int .i64 c, .string t]) 1).run Tryz.prog W = .ok (.string t) W := by kernel_rfl
end Go.Proofs.YtcaknhoaoodbfaaGreatDoor

/- The program's IdentityText. -/
namespace Go.Proofs.YtcaknhoaoodbfaaGreatDoor
open Go.ChangeShapes Go.WideShapes Go.ChangeAt Go.RowKit
set_option linter.unusedVariables false

theorem join4 (a b c d : ByteArray) : (⟨(Lib.join ([a, b, c, d].map (·.data.toList)) slash.data.toList).toArray⟩ : ByteArray) = a ++ slash ++ b ++ slash ++ c ++ slash ++ d := by
  apply ByteArray.ext
  simp [Lib.join, ByteArray.data_append]
theorem join4_len (a b c d : ByteArray) (h1 : a.size ≤ 1048576) (h2 : b.size ≤ 1048576) (h3 : c.size ≤ 1048576) (h4 : d.size ≤ 1048576) : (Lib.join ([a, b, c, d].map (·.data.toList)) slash.data.toList).length ≤ 140737488355328 := by
  have e1 : a.data.toList.length = a.size := rfl
  have e2 : b.data.toList.length = b.size := rfl
  have e3 : c.data.toList.length = c.size := rfl
  have e4 : d.data.toList.length = d.size := rfl
  simp only [Lib.join, List.map_cons, List.map_nil, slash]
  simp
  omega

set_option maxHeartbeats 1600000 in
theorem implIdentityText_any (x : Ident) (w : World) (hs : SmallId x) (hT : Tabs w) :
    Calls Tryz.prog 45 #[.agg #[.string x.cat, .string x.kind, .string x.lang, .string x.name]] w (TxtRes w (idCode x) (idText x)) := by
  have B0 := below2 w (.cells #[.string x.cat, .string x.kind, .string x.lang, .string x.name] 54) (.cells #[.int .i64 0, .string { data := #[] }] 42)
  have K1 := Lib.hid (fun W (hb : Below w.heap.size w W) => hasFields_any x W hs (tabs_kept hT hb))
  have H0 : Hid (identB x = false → idCode x = 5 ∧ idText x = ByteArray.empty) := Lib.hid (fun h => by unfold idCode idText; simp [h])
  have H1 : Hid (identB x = true → idCode x = 0 ∧ idText x = x.cat ++ slash ++ x.kind ++ slash ++ x.lang ++ slash ++ x.name) := Lib.hid (fun h => by unfold idCode idText; simp [h, identT])
  unfold TxtRes
  generalize idCode x = cd at H0 H1 ⊢
  generalize idText x = tx at H0 H1 ⊢
  generalize identB x = bb at K1 H0 H1
  obtain ⟨s, t, u, v⟩ := x
  obtain ⟨h1, h2, h3, h4⟩ := hs
  dsimp only at K1 B0 H1 h1 h2 h3 h4 ⊢
  have HJ := Lib.hid (join4 s t u v)
  have HJL := Lib.hid (join4_len s t u v h1 h2 h3 h4)
  cases bb
  · obtain ⟨rfl, rfl⟩ := H0.out rfl
    clear H0 H1 hT HJ HJL
    go_enter Tryz.func45, Tryz.ntmps45
    go_wp2_with fail
    refine (K1.out _ B0).mono ?_
    rintro en w1 ⟨rfl, hb1⟩
    obtain ⟨hc1, hf1⟩ := bcell hb1
    have hz : w.heap.size + 1 < w1.heap.size := by have := hb1.size; simp at this; omega
    have B1 := Lib.hid (below_then B0 hb1)
    clear hb1
    go_wp2
    exact bodyPost_ret (v := .agg #[.int .i64 5, .string ByteArray.empty]) (by simp [results, Tryz.results45, go_sem, hc1]; rfl) rfl ⟨rfl, (B1.out.setCell (by simp) _).setCell (by simp) _⟩
  · obtain ⟨rfl, rfl⟩ := H1.out rfl
    clear H0 H1 hT
    go_enter Tryz.func45, Tryz.ntmps45
    go_wp2_with fail
    refine (K1.out _ B0).mono ?_
    rintro en w1 ⟨rfl, hb1⟩
    obtain ⟨hc1, hf1⟩ := bcell hb1
    have hz : w.heap.size + 1 < w1.heap.size := by have := hb1.size; simp at this; omega
    have HB1 := Lib.hid hb1
    have B1 := Lib.hid (below_then B0 hb1)
    clear hb1
    go_wp2_with fail
    have KJ := Lib.hid (Tryz.strings_Join w1.heap.size 0 4 [s, t, u, v] slash (w1.alloc (.cells #[.string s, .string t, .string u, .string v] 9)) (fun j y hj => by
      match j, hj with
      | 0, hj => simp at hj; subst hj; simp
      | 1, hj => simp at hj; subst hj; simp
      | 2, hj => simp at hj; subst hj; simp
      | 3, hj => simp at hj; subst hj; simp) (by simp) (by simp) (by simp) HJL.out)
    rw [HJ.out] at KJ
    refine KJ.out.mono ?_
    rintro en w2 ⟨rfl, hb2⟩
    have HB2 := below_then (below_then HB1.out (below1 w1 _)) hb2
    obtain ⟨hc1, hf1⟩ := bcell HB2
    have hz : w.heap.size + 1 < w2.heap.size := by have := HB2.size; simp at this; omega
    have B2 := Lib.hid (below_then B0 HB2)
    clear hb2 HB2 KJ
    go_wp2
    exact bodyPost_ret (v := .agg #[.int .i64 0, .string (s ++ slash ++ t ++ slash ++ u ++ slash ++ v)]) (by simp [results, Tryz.results45, go_sem, hc1]) rfl ⟨rfl, (B2.out.setCell (by simp) _).setCell (by simp) _⟩
end Go.Proofs.YtcaknhoaoodbfaaGreatDoor
