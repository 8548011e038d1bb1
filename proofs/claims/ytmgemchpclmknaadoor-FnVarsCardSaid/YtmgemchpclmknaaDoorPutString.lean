/- Contracts of l2String and the two PutStrings. -/
import Derived.Test.YtmgemchpclmknaaDoorPutVar
import Derived.Test.YtmgemchpclmknaaDoorUtf
import Derived.Test.YtmgemchpclmknaaDoorSpecText
import Derived.Test.YtmgemchpclmknaaDoorImplText
import Derived.Lib.AppendStr
namespace Go.Proofs.YtmgemchpclmknaaDoor
open Go.ChangeShapes Go.WideShapes Go.ChangeAt Go.RowKit
set_option linter.unusedVariables false

set_option maxHeartbeats 800000 in
theorem putStrPush (w : World) (B b : Nat) (x : Int) (xs : List Int) (h : Sink w B b xs) (hB : B ≤ b) (hl : xs.length ≤ 100000) :
    Calls Tryd.prog 76 #[.int .u8 x, .pointer (some ⟨b, 0, none⟩)] w (Put1 w B b xs x) := by
  obtain ⟨i0, hi, hz0, hz1, hz2⟩ := info_parts varInfo
  obtain ⟨a, n, c, hv, ho⟩ := h
  have hn := owns_length ho
  have hln : n ≤ 100000 := by omega
  have HN := Lib.hid hn
  have HV := Lib.hid hv
  have hc := hv.cell
  have hf := hv.frozen
  have hlt := hv.lt
  clear hn hl hv
  go_enter Tryd.func76, Tryd.ntmps76
  go_wp2_with (at_builtin; refine wpList_append_own _ rfl _ _ 22 rfl B 5 i0 (.int .u8 0) 1 1 Tryd.underlying22 hi hz0 hz1 hz2 rfl (by decide) _ _ _ rfl (ho.alloc _) ⟨w.heap.size, 0, none⟩ 1 1 [.int .u8 x] rfl rfl ?c1 ?c2 ?c3 ?c4 ?c5 ?_)
  case c1 =>
    intro j v hj
    match j, hj with
    | 0, hj => simp at hj; subst hj; simp [Addr.add]
  case c2 => intro v hv; simp at hv; subst hv; rfl
  case c3 => unfold maxLen; omega
  case c4 => omega
  case c5 => simp; omega
  intro v' w2 hown' hgrow _
  obtain ⟨a2, c2, rfl⟩ := owns_slice hown'
  obtain ⟨b1, b2, b3, b4, b5⟩ := HV.out.appended (by decide) ho (by omega) hB hown' hgrow
  have hc2 := b1.cell
  have hf2 := b1.frozen
  have H2 := Lib.hid b2
  have H3 := Lib.hid b3
  have H5 := Lib.hid b5
  clear b1 b2 b3 b4 b5 hown' hgrow hc hf
  go_wp2
  go_end0
  exact ⟨rfl, ⟨a2, _, c2, H2.out, by rw [List.map_append]; exact H3.out⟩, H5.out⟩

set_option maxRecDepth 100000 in
set_option maxHeartbeats 1600000 in
theorem putStrEach (w : World) (B b N : Nat) (xs : List Int) (h : Sink w B b xs) (hB : B ≤ b) (hN : N ≤ 9223372036854775807) (hl : xs.length ≤ 10000) :
    Calls Tryd.prog 70 #[.int .i64 N, .func (.func 76) #[] #[.pointer (some ⟨b, 0, none⟩)]] w (PutAll w B b xs (vput N)) := by
  have h9 := vput_len9 N hN
  have HS0 := Lib.hid h
  have HN := Lib.hid hN
  clear h hN
  go_enter Tryd.func70, Tryd.ntmps70
  go_wp2
  go_loopw [0] (fun q wr => ∃ (m : Nat) (zs : List Int), q = .int .i64 m ∧ m ≤ N ∧ zs ++ vput m = vput N ∧ Sink wr B b (xs ++ zs) ∧ Below B w wr) (fun q _ => (intOf q).toNat)
  case atStart => exact ⟨N, [], rfl, Nat.le_refl _, rfl, by rw [List.append_nil]; exact HS0.out, Below.refl _ _⟩
  case round =>
    obtain ⟨m, zs, rfl, hm, hz, hs, hb⟩ := hrel
    have hzl : zs.length ≤ 9 := by have := congrArg List.length hz; simp at this; omega
    have HZ := Lib.hid hz
    have HS := Lib.hid hs
    have HB := Lib.hid hb
    have HL : Hid ((xs ++ zs).length ≤ 100000) := Lib.hid (by simp; omega)
    clear hz hs hb
    by_cases h128 : m < 128
    · have K := Lib.hid (putStrPush wr B b (m : Int) _ HS.out hB HL.out)
      go_wp2_with fail
      refine K.out.mono ?_
      rintro e w1 ⟨rfl, hs1, hb1⟩
      have H1 := Lib.hid hs1
      have H2 := Lib.hid hb1
      clear hs1 hb1
      go_wp2
      go_end0
      exact ⟨rfl, by rw [← vput_last HZ.out h128, ← List.append_assoc]; exact H1.out, HB.out.trans H2.out⟩
    · have K := Lib.hid (putStrPush wr B b (128 + (m : Int) % 128) _ HS.out hB HL.out)
      have q1 : 0 ≤ (m : Int) % 128 := by omega
      have q2 : (m : Int) % 128 < 128 := by omega
      have q3 : (m : Int) / 128 ≤ 72057594037927936 := by have := HN.out; omega
      have q4 : 0 ≤ (m : Int) / 128 := by omega
      go_wp2_with fail
      refine K.out.mono ?_
      rintro e w1 ⟨rfl, hs1, hb1⟩
      have H1 := Lib.hid hs1
      have H2 := Lib.hid hb1
      clear hs1 hb1
      go_wp2
      go_roundw
      case rel => exact ⟨m / 128, zs ++ [128 + (m : Int) % 128], vint (by omega), by omega, vput_step HZ.out h128, by rw [← List.append_assoc]; exact H1.out, HB.out.trans H2.out⟩
      case measure => simp [intOf]; omega


theorem cell_old {w : World} {a : Addr} {v : Value} (o : Obj) (h : w.cell? a = some v) : (w.alloc o).cell? a = some v :=
  ((below1 w o).cell (World.block_lt_of_cell? w _ h)).trans h
theorem bytesI_take (s : ByteArray) (k : Nat) (h : k < s.size) : bytesI (s.data.toList.take (k + 1)) = bytesI (s.data.toList.take k) ++ [(s[k].toNat : Int)] := by
  unfold bytesI
  rw [List.take_succ_eq_append_getElem (by simpa using h), List.map_append]
  rfl

set_option maxRecDepth 100000 in
set_option maxHeartbeats 1600000 in
theorem putString_each (w : World) (B b : Nat) (s : ByteArray) (h : Sink w B b []) (hB : B ≤ b) (hs : s.size ≤ 60) :
    Calls Tryd.prog 75 #[.string s, .func (.func 76) #[] #[.pointer (some ⟨b, 0, none⟩)]] w (PutAll w B b [] (vput s.size ++ bytesI s.data.toList)) := by
  have h9 := vput_len9 s.size (by omega)
  have K0 := Lib.hid (putStrEach w B b s.size [] h hB (by omega) (by simp))
  unfold PutAll at K0
  clear h
  go_enter Tryd.func75, Tryd.ntmps75
  go_wp2_with fail
  refine K0.out.mono ?_
  rintro e w1 ⟨rfl, hs1, hb1⟩
  have H1 := Lib.hid hs1
  have B1 := Lib.hid hb1
  clear hs1 hb1
  go_wp2
  go_loopw [11] (fun i wr => ∃ k : Nat, k ≤ s.size ∧ i = .int .i64 k ∧ Sink wr B b (vput s.size ++ bytesI (s.data.toList.take k)) ∧ Below B w wr) (fun i _ => s.size - (intOf i).toNat)
  case atStart => exact ⟨0, Nat.zero_le _, rfl, by have := H1.out; simpa [bytesI] using this, B1.out⟩
  case round =>
    obtain ⟨k, hk, rfl, hsk, hbk⟩ := hrel
    have HS := Lib.hid hsk
    have HB := Lib.hid hbk
    clear hsk hbk
    by_cases hlt : k < s.size
    · have KP := Lib.hid (fun (x : Int) => putStrPush wr B b x _ HS.out hB (by have h2 : (bytesI (s.data.toList.take k)).length ≤ k := by { unfold bytesI; simp; omega }; simp; omega))
      have HT := Lib.hid (bytesI_take s k hlt)
      have q0 : (0 : Int) ≤ (s[k].toNat : Int) := by omega
      have q1 : (s[k].toNat : Int) ≤ 255 := by have := s[k].toNat_lt; omega
      go_wp2_with fail
      refine (KP.out _).mono ?_
      rintro e w2 ⟨rfl, hs2, hb2⟩
      have H2 := Lib.hid hs2
      have B2 := Lib.hid (HB.out.trans hb2)
      clear hs2 hb2
      go_wp2
      go_roundw
      case rel => exact ⟨k + 1, by omega, by go_num, by rw [HT.out, ← List.append_assoc]; exact H2.out, B2.out⟩
      case measure => simp [intOf]; omega
    · obtain rfl : k = s.size := by omega
      go_wp2
      go_end0
      exact ⟨rfl, by have := HS.out; rw [take_size] at this; simpa using this, HB.out⟩

/-- what PutString answers beside its code -/
def psList (l : List UInt8) : List Int := if textFault l = 0 then vput l.length ++ bytesI l else []
theorem fault_size {l : List UInt8} (h : textFault l = 0) : l.length ≤ 60 := by
  unfold textFault at h
  split at h
  · omega
  · omega
theorem psList_length (l : List UInt8) : (psList l).length ≤ 61 := by
  unfold psList
  split
  · rename_i h
    have := fault_size h
    rw [vput_small (by omega)]
    unfold bytesI
    simp
    omega
  · simp
theorem strCells_eq (s : ByteArray) : Lib.strCells s = (bytesI s.data.toList).map (Value.int .u8) := by
  unfold Lib.strCells bytesI
  simp

set_option maxRecDepth 100000 in
set_option maxHeartbeats 1600000 in
theorem l2String_any (s : ByteArray) (hs : s.size ≤ 1048576) (w : World) :
    Calls Tryd.prog 77 #[.string s] w (OwnsRes w 5 .u8 (vput s.size ++ bytesI s.data.toList)) := by
  obtain ⟨i0, hi, hz0, hz1, hz2⟩ := info_parts varInfo
  have K := Lib.hid (l2Put_any s.size (by omega))
  have h9 := vput_len9 s.size (by omega)
  go_enter Tryd.func77, Tryd.ntmps77
  go_wp2_with fail
  refine (K.out _).mono ?_
  rintro e w1 ⟨a, n, c, rfl, ho, hb⟩
  have hn : n ≤ 9 := by have := owns_length ho; omega
  have HO := Lib.hid ho
  have HB := Lib.hid hb
  clear ho hb
  go_wp2_with (at_builtin; refine Lib.wpList_append_own_string _ rfl _ _ 22 9 rfl w.heap.size 5 i0 Tryd.underlying22 Tryd.underlying9 hi hz0 hz1 hz2 _ _ _ rfl HO.out s rfl ?c1 ?c2 ?c3 ?_)
  case c1 => unfold maxLen; omega
  case c2 => omega
  case c3 => exact HB.out.size
  intro v' w2 hown' hgrow _
  obtain ⟨a2, c2, rfl⟩ := owns_slice hown'
  have HB2 := Lib.hid (HB.out.grown hgrow HB.out.size (fun k hk => (HO.out.lt k hk).1))
  have HO2 := Lib.hid hown'
  clear hown' hgrow
  go_wp2
  go_ret
  exact ⟨a2, _, c2, rfl, by rw [List.map_append, ← strCells_eq]; exact HO2.out, HB2.out⟩

set_option maxHeartbeats 1600000 in
theorem specPutString_any (s : ByteArray) (hs : s.size ≤ 1048576) (w : World) :
    Calls Tryd.prog 38 #[.string s] w (OwnsRes2 w 5 .u8 (textFault s.data.toList) (psList s.data.toList)) := by
  have hl : s.data.toList.length = s.size := by simp
  have KT := Lib.hid (specTextFault_any s hs)
  have KS := Lib.hid (l2String_any s hs)
  unfold psList
  rw [hl]
  generalize textFault s.data.toList = t at KT ⊢
  clear hl
  by_cases ht : t = 0
  · rw [if_pos ht]
    subst ht
    go_enter Tryd.func38, Tryd.ntmps38
    go_wp2_with fail
    refine (KT.out _).mono ?_
    rintro e w1 ⟨rfl, hb1⟩
    go_wp2_with fail
    refine (KS.out _).mono ?_
    rintro e w2 ⟨a, n, c, rfl, ho, hb2⟩
    have hb := below_then hb1 hb2
    obtain ⟨hc, hf⟩ := bcell hb
    have HO := Lib.hid (owns_mono ho hb1.size)
    have hz := hb.size
    simp at hz
    clear ho hb1 hb2
    go_wp2
    exact bodyPost_ret (v := .agg #[.int .i64 0, .slice a n c]) (by simp [results, Tryd.results38, go_sem, hc]) rfl
      ⟨a, n, c, rfl, owns_mono (owns_set_below (owns_set_below HO.out _ (by simp) _) _ (by simp) _) (by simp), (((below1 w _).trans (hb.mono (by simp))).setCell (by simp) _).setCell (by simp) _⟩
  · rw [if_neg ht]
    have h0 : (t == 0) = false := by simpa using ht
    have h1 : (t != 0) = true := by simpa using ht
    clear ht
    go_enter Tryd.func38, Tryd.ntmps38
    go_wp2_with fail
    refine (KT.out _).mono ?_
    rintro e w1 ⟨rfl, hb⟩
    obtain ⟨hc, hf⟩ := bcell hb
    have hz := hb.size
    simp at hz
    go_wp2
    exact bodyPost_ret (v := .agg #[.int .i64 t, .slice none 0 0]) (by simp [results, Tryd.results38, go_sem, hc]) rfl
      ⟨none, 0, 0, rfl, World.ownsRow_nil _ _ _ _, (((below1 w _).trans (hb.mono (by simp))).setCell (by simp) _).setCell (by simp) _⟩

set_option maxHeartbeats 1600000 in
theorem implPutString_any (s : ByteArray) (hs : s.size ≤ maxLen) (w : World) (hT : Tabs w) :
    Calls Tryd.prog 33 #[.string s] w (OwnsRes2 w 5 .u8 (textFault s.data.toList) (psList s.data.toList)) := by
  have hl : s.data.toList.length = s.size := by simp
  have KT := Lib.hid (fun (W : World) (h : Below w.heap.size w W) => implTextFault_any s hs W (tabs_kept hT h))
  unfold psList
  rw [hl]
  clear hl
  by_cases ht : textFault s.data.toList = 0
  · rw [if_pos ht]
    have h60 := fault_size ht
    rw [show s.data.toList.length = s.size by simp] at h60
    rw [ht] at KT ⊢
    have K := Lib.hid (fun (W : World) (B : Nat) (h : Sink W B B []) => putString_each W B B s h (Nat.le_refl _) h60)
    unfold PutAll at K
    clear ht hs
    generalize vput s.size ++ bytesI s.data.toList = L at K ⊢
    go_enter Tryd.func33, Tryd.ntmps33
    go_wp2_with fail
    refine (KT.out _ (below1 _ _)).mono ?_
    rintro e w1 ⟨rfl, hb⟩
    have HB1 := Lib.hid hb
    have e1 : w1.cell? ⟨w.heap.size, 0, none⟩ = some (.int .i64 0) := by rw [hb.cell (by simp)]; simp
    have e2 : w1.cell? ⟨w.heap.size, 1, none⟩ = some (.slice none 0 0) := by rw [hb.cell (by simp)]; simp
    have e3 : w1.frozen? ⟨w.heap.size, 0, none⟩ = false := by rw [hb.frozen (by simp)]; simp
    have e4 : w1.frozen? ⟨w.heap.size, 1, none⟩ = false := by rw [hb.frozen (by simp)]; simp
    have hz := hb.size
    simp at hz
    clear hb
    go_wp2_with fail
    refine (K.out _ w1.heap.size ⟨none, 0, 0, Boxed.new w1 _ _, World.ownsRow_nil _ _ _ _⟩).mono ?_
    rintro e w2 ⟨rfl, ⟨a, n, c, hv, ho⟩, hb⟩
    have hc1 := hv.cell
    have hlt := hv.lt
    have hlt0 : w.heap.size < w2.heap.size := by omega
    have hc0 : w2.cell? ⟨w.heap.size, 0, none⟩ = some (.int .i64 0) := by rw [hb.cell (by exact hz), cell_old _ e1]
    have hc2 : w2.cell? ⟨w.heap.size, 1, none⟩ = some (.slice none 0 0) := by rw [hb.cell (by exact hz), cell_old _ e2]
    have hf0 : w2.frozen? ⟨w.heap.size, 0, none⟩ = false := by rw [hb.frozen (by exact hz)]; exact ((below1 w1 _).frozen (by exact hz)).trans e3
    have hf2 : w2.frozen? ⟨w.heap.size, 1, none⟩ = false := by rw [hb.frozen (by exact hz)]; exact ((below1 w1 _).frozen (by exact hz)).trans e4
    have HO := Lib.hid ho
    have HB := Lib.hid ((HB1.out.alloc HB1.out.size _).trans (hb.mono (by simp; omega)))
    clear ho hb hv e1 e2 e3 e4
    go_wp2
    exact bodyPost_ret (v := .agg #[.int .i64 0, .slice a n c]) (by simp [results, Tryd.results33, go_sem, hc0, hc2]) rfl
      ⟨a, n, c, rfl, owns_mono (owns_set_below (owns_set_below (by simpa using HO.out) _ (by exact hz) _) _ (by exact hz) _) (by omega), (((below1 w _).trans (HB.out.mono (by simp))).setCell (by simp) _).setCell (by simp) _⟩
  · rw [if_neg ht]
    generalize textFault s.data.toList = t at KT ht ⊢
    have h0 : (t == 0) = false := by simpa using ht
    have h1 : (t != 0) = true := by simpa using ht
    clear ht
    go_enter Tryd.func33, Tryd.ntmps33
    go_wp2_with fail
    refine (KT.out _ (below1 _ _)).mono ?_
    rintro e w1 ⟨rfl, hb⟩
    obtain ⟨hc, hf⟩ := bcell hb
    have hz := hb.size
    simp at hz
    go_wp2
    exact bodyPost_ret (v := .agg #[.int .i64 t, .slice none 0 0]) (by simp [results, Tryd.results33, go_sem, hc]) rfl
      ⟨none, 0, 0, rfl, World.ownsRow_nil _ _ _ _, (((below1 w _).trans (hb.mono (by simp))).setCell (by simp) _).setCell (by simp) _⟩
end Go.Proofs.YtmgemchpclmknaaDoor
