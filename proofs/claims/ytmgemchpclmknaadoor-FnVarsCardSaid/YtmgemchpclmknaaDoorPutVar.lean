/- Contracts of l2Put and the two PutVars. -/
import Derived.Test.YtmgemchpclmknaaDoorVar
import Derived.RangeFuncBox
namespace Go.Proofs.YtmgemchpclmknaaDoor
open Go.ChangeShapes Go.WideShapes Go.ChangeAt Go.RowKit
set_option linter.unusedVariables false

theorem varInfo : (Tryd.prog.info? 5).map (fun i => (i.zero, i.size, i.bytes)) = some (some (.int .u8 0), 1, 1) := by kernel_rfl

/-- a variable's box that holds a row of bytes -/
def Sink (w : World) (B b : Nat) (xs : List Int) : Prop :=
  ∃ a n c, Boxed w b 22 (.slice a n c) ∧ w.ownsRow B 5 1 (.slice a n c) n (xs.map (Value.int .u8))
/-- a byte was put into it -/
def Put1 (w : World) (B b : Nat) (xs : List Int) (x : Int) (e : Ending) (w' : World) : Prop :=
  e = .returned (.tuple #[]) ∧ Sink w' B b (xs ++ [x]) ∧ Below B w w'

set_option maxHeartbeats 800000 in
theorem putVarPush (w : World) (B b : Nat) (x : Int) (xs : List Int) (h : Sink w B b xs) (hB : B ≤ b) (hl : xs.length ≤ 100000) :
    Calls Tryd.prog 71 #[.int .u8 x, .pointer (some ⟨b, 0, none⟩)] w (Put1 w B b xs x) := by
  obtain ⟨i0, hi, hz0, hz1, hz2⟩ := info_parts varInfo
  obtain ⟨a, n, c, hv, ho⟩ := h
  have hn := owns_length ho
  have hln : n ≤ 100000 := by omega
  have HN := Lib.hid hn
  have HV := Lib.hid hv
  have hc := hv.cell
  have hf := hv.frozen
  have hlt := hv.lt
  clear hn hl hv
  go_enter Tryd.func71, Tryd.ntmps71
  go_wp2_with (at_builtin; refine wpList_append_own _ rfl _ _ 22 rfl B 5 i0 (.int .u8 0) 1 1 Tryd.underlying22 hi hz0 hz1 hz2 rfl (by decide) _ _ _ rfl (ho.alloc _) ⟨w.heap.size, 0, none⟩ 1 1 [.int .u8 x] rfl rfl ?c1 ?c2 ?c3 ?c4 ?c5 ?_)
  case c1 =>
    intro j v hj
    match j, hj with
    | 0, hj => simp at hj; subst hj; simp [Addr.add]
  case c2 => intro v hv; simp at hv; subst hv; rfl
  case c3 => unfold maxLen; omega
  case c4 => omega
  case c5 => simp; omega
  intro v' w2 hown' hgrow _
  obtain ⟨a2, c2, rfl⟩ := owns_slice hown'
  obtain ⟨b1, b2, b3, b4, b5⟩ := HV.out.appended (by decide) ho (by omega) hB hown' hgrow
  have hc2 := b1.cell
  have hf2 := b1.frozen
  have H2 := Lib.hid b2
  have H3 := Lib.hid b3
  have H5 := Lib.hid b5
  clear b1 b2 b3 b4 b5 hown' hgrow hc hf
  go_wp2
  go_end0
  exact ⟨rfl, ⟨a2, _, c2, H2.out, by rw [List.map_append]; exact H3.out⟩, H5.out⟩

/-- bytes were put into it -/
def PutAll (w : World) (B b : Nat) (xs ys : List Int) (e : Ending) (w' : World) : Prop :=
  e = .returned (.tuple #[]) ∧ Sink w' B b (xs ++ ys) ∧ Below B w w'
theorem vint {k : IntKind} {a b : Int} (h : a = b) : Value.int k a = .int k b := by rw [h]

set_option maxRecDepth 100000 in
set_option maxHeartbeats 1600000 in
theorem putVarEach (w : World) (B b N : Nat) (xs : List Int) (h : Sink w B b xs) (hB : B ≤ b) (hN : N ≤ 9223372036854775807) (hl : xs.length ≤ 10000) :
    Calls Tryd.prog 70 #[.int .i64 N, .func (.func 71) #[] #[.pointer (some ⟨b, 0, none⟩)]] w (PutAll w B b xs (vput N)) := by
  have h9 := vput_len9 N hN
  have HS0 := Lib.hid h
  have HN := Lib.hid hN
  clear h hN
  go_enter Tryd.func70, Tryd.ntmps70
  go_wp2
  go_loopw [0] (fun q wr => ∃ (m : Nat) (zs : List Int), q = .int .i64 m ∧ m ≤ N ∧ zs ++ vput m = vput N ∧ Sink wr B b (xs ++ zs) ∧ Below B w wr) (fun q _ => (intOf q).toNat)
  case atStart => exact ⟨N, [], rfl, Nat.le_refl _, rfl, by rw [List.append_nil]; exact HS0.out, Below.refl _ _⟩
  case round =>
    obtain ⟨m, zs, rfl, hm, hz, hs, hb⟩ := hrel
    have hzl : zs.length ≤ 9 := by have := congrArg List.length hz; simp at this; omega
    have HZ := Lib.hid hz
    have HS := Lib.hid hs
    have HB := Lib.hid hb
    have HL : Hid ((xs ++ zs).length ≤ 100000) := Lib.hid (by simp; omega)
    clear hz hs hb
    by_cases h128 : m < 128
    · have K := Lib.hid (putVarPush wr B b (m : Int) _ HS.out hB HL.out)
      go_wp2_with fail
      refine K.out.mono ?_
      rintro e w1 ⟨rfl, hs1, hb1⟩
      have H1 := Lib.hid hs1
      have H2 := Lib.hid hb1
      clear hs1 hb1
      go_wp2
      go_end0
      exact ⟨rfl, by rw [← vput_last HZ.out h128, ← List.append_assoc]; exact H1.out, HB.out.trans H2.out⟩
    · have K := Lib.hid (putVarPush wr B b (128 + (m : Int) % 128) _ HS.out hB HL.out)
      have q1 : 0 ≤ (m : Int) % 128 := by omega
      have q2 : (m : Int) % 128 < 128 := by omega
      have q3 : (m : Int) / 128 ≤ 72057594037927936 := by have := HN.out; omega
      have q4 : 0 ≤ (m : Int) / 128 := by omega
      go_wp2_with fail
      refine K.out.mono ?_
      rintro e w1 ⟨rfl, hs1, hb1⟩
      have H1 := Lib.hid hs1
      have H2 := Lib.hid hb1
      clear hs1 hb1
      go_wp2
      go_roundw
      case rel => exact ⟨m / 128, zs ++ [128 + (m : Int) % 128], vint (by omega), by omega, vput_step HZ.out h128, by rw [← List.append_assoc]; exact H1.out, HB.out.trans H2.out⟩
      case measure => simp [intOf]; omega

set_option maxRecDepth 100000 in
set_option maxHeartbeats 1600000 in
theorem l2Put_any (N : Nat) (hN : N ≤ 9223372036854775807) (w : World) :
    Calls Tryd.prog 72 #[.int .i64 N] w (OwnsRes w 5 .u8 (vput N)) := by
  obtain ⟨i0, hi, hz0, hz1, hz2⟩ := info_parts varInfo
  have h9 := vput_len9 N hN
  have HN := Lib.hid hN
  clear hN
  go_enter Tryd.func72, Tryd.ntmps72
  go_wp2
  go_loopw [0, 3] (fun q v wr => ∃ (m j : Nat) (a' : Option Addr) (c' : Nat) (zs : List Int), q = .int .i64 m ∧ m ≤ N ∧ zs ++ vput m = vput N ∧ v = .slice a' j c' ∧ wr.ownsRow w.heap.size 5 1 (.slice a' j c') j (zs.map (Value.int .u8)) ∧ Below w.heap.size w wr) (fun q _ _ => (intOf q).toNat)
  case atStart => exact ⟨N, 0, _, _, [], rfl, Nat.le_refl _, rfl, rfl, lit_owns w _ .u8 [] 0 rfl (by decide), below1 w _⟩
  case round =>
    obtain ⟨m, j, a', c', zs, rfl, hm, hz, rfl, ho, hb⟩ := hrel
    have hj : j ≤ 9 := by have := congrArg List.length hz; have := owns_length ho; simp at *; omega
    have HZ := Lib.hid hz
    have HO := Lib.hid ho
    have HB := Lib.hid hb
    clear hz ho hb
    by_cases h128 : m < 128
    · go_wp2_with (at_builtin; refine wpList_append_own _ rfl _ _ 22 rfl w.heap.size 5 i0 (.int .u8 0) 1 1 Tryd.underlying22 hi hz0 hz1 hz2 rfl (by decide) _ _ _ rfl (HO.out.alloc _) ⟨wr.heap.size, 0, none⟩ 1 1 [.int .u8 (m : Int)] rfl rfl ?c1 ?c2 ?c3 ?c4 ?c5 ?_)
      case c1 =>
        intro j v hj
        match j, hj with
        | 0, hj => simp at hj; subst hj; simp [Addr.add]
      case c2 => intro v hv; simp at hv; subst hv; rfl
      case c3 => unfold maxLen; omega
      case c4 => omega
      case c5 => have := HB.out.size; simp; omega
      intro v' w2 hown' hgrow _
      obtain ⟨a2, c2, rfl⟩ := owns_slice hown'
      have HB2 := Lib.hid (below_appended HB.out HO.out hgrow)
      have HO2 := Lib.hid hown'
      clear hown' hgrow
      go_wp2
      go_ret
      exact ⟨a2, _, c2, rfl, by rw [← vput_last HZ.out h128, List.map_append]; exact HO2.out, HB2.out⟩
    · have q1 : 0 ≤ (m : Int) % 128 := by omega
      have q2 : (m : Int) % 128 < 128 := by omega
      have q3 : (m : Int) / 128 ≤ 72057594037927936 := by have := HN.out; omega
      have q4 : 0 ≤ (m : Int) / 128 := by omega
      go_wp2_with (at_builtin; refine wpList_append_own _ rfl _ _ 22 rfl w.heap.size 5 i0 (.int .u8 0) 1 1 Tryd.underlying22 hi hz0 hz1 hz2 rfl (by decide) _ _ _ rfl (HO.out.alloc _) ⟨wr.heap.size, 0, none⟩ 1 1 [.int .u8 (128 + (m : Int) % 128)] rfl rfl ?d1 ?d2 ?d3 ?d4 ?d5 ?_)
      case d1 =>
        intro j v hj
        match j, hj with
        | 0, hj => simp at hj; subst hj; simp [Addr.add]
      case d2 => intro v hv; simp at hv; subst hv; rfl
      case d3 => unfold maxLen; omega
      case d4 => omega
      case d5 => have := HB.out.size; simp; omega
      intro v' w2 hown' hgrow _
      obtain ⟨a2, c2, rfl⟩ := owns_slice hown'
      have HB2 := Lib.hid (below_appended HB.out HO.out hgrow)
      have HO2 := Lib.hid hown'
      clear hown' hgrow
      go_wp2
      go_roundw
      case rel => exact ⟨m / 128, j + 1, a2, c2, zs ++ [128 + (m : Int) % 128], vint (by omega), by omega, vput_step HZ.out h128, rfl, by rw [List.map_append]; exact HO2.out, HB2.out⟩
      case measure => simp [intOf]; omega

/-- what PutVar answers: the code, the bytes -/
def pvCode (p : Int) : Int := if p < 0 then 3 else 0
def pvList (p : Int) : List Int := if p < 0 then [] else vput p.toNat
theorem pvList_length (p : Int) (h : p ≤ 9223372036854775807) : (pvList p).length ≤ 61 := by
  unfold pvList
  split
  · simp
  · have := vput_len9 p.toNat (by omega)
    omega

set_option maxHeartbeats 800000 in
theorem specPutVar_any (p : Int) (hp : p ≤ 9223372036854775807) (w : World) :
    Calls Tryd.prog 36 #[.int .i64 p] w (OwnsRes2 w 5 .u8 (pvCode p) (pvList p)) := by
  unfold pvCode pvList
  by_cases hq : p < 0
  · rw [if_pos hq, if_pos hq]
    go_enter Tryd.func36, Tryd.ntmps36
    go_wp2
    exact bodyPost_ret (v := .agg #[.int .i64 3, .slice none 0 0]) (by simp [results, Tryd.results36, go_sem]) rfl ⟨none, 0, 0, rfl, World.ownsRow_nil _ _ _ _, below1 _ _⟩
  · rw [if_neg hq, if_neg hq]
    obtain ⟨N, rfl⟩ : ∃ N : Nat, p = N := ⟨p.toNat, by omega⟩
    have K := Lib.hid (l2Put_any N (by omega))
    rw [Int.toNat_natCast]
    go_enter Tryd.func36, Tryd.ntmps36
    go_wp2_with fail
    refine (K.out _).mono ?_
    rintro e w1 ⟨a, n, c, rfl, ho, hb⟩
    obtain ⟨hc, hf⟩ := bcell hb
    have HO := Lib.hid ho
    have hz := hb.size
    simp at hz
    clear ho
    go_wp2
    exact bodyPost_ret (v := .agg #[.int .i64 0, .slice a n c]) (by simp [results, Tryd.results36, go_sem, hc]) rfl
      ⟨a, n, c, rfl, owns_mono (owns_set_below (owns_set_below HO.out _ (by simp) _) _ (by simp) _) (by simp), (((below1 w _).trans (hb.mono (by simp))).setCell (by simp) _).setCell (by simp) _⟩

set_option maxHeartbeats 800000 in
theorem implPutVar_any (p : Int) (hp : p ≤ 9223372036854775807) (w : World) :
    Calls Tryd.prog 29 #[.int .i64 p] w (OwnsRes2 w 5 .u8 (pvCode p) (pvList p)) := by
  unfold pvCode pvList
  by_cases hq : p < 0
  · rw [if_pos hq, if_pos hq]
    go_enter Tryd.func29, Tryd.ntmps29
    go_wp2
    exact bodyPost_ret (v := .agg #[.int .i64 3, .slice none 0 0]) (by simp [results, Tryd.results29, go_sem]) rfl ⟨none, 0, 0, rfl, World.ownsRow_nil _ _ _ _, below1 _ _⟩
  · rw [if_neg hq, if_neg hq]
    obtain ⟨N, rfl⟩ : ∃ N : Nat, p = N := ⟨p.toNat, by omega⟩
    rw [Int.toNat_natCast]
    have K := Lib.hid (fun (W : World) (h : Sink W (w.heap.size + 1) (w.heap.size + 1) []) => putVarEach W (w.heap.size + 1) (w.heap.size + 1) N [] h (Nat.le_refl _) (by omega) (by simp))
    go_enter Tryd.func29, Tryd.ntmps29
    go_wp2_with fail
    refine (K.out _ ⟨none, 0, 0, by have := Boxed.new (w.alloc (.cells #[.int .i64 0, .slice none 0 0] 26)) 22 (.slice none 0 0); simpa using this, World.ownsRow_nil _ _ _ _⟩).mono ?_
    rintro e w1 ⟨rfl, ⟨a, n, c, hv, ho⟩, hb⟩
    have hc1 := hv.cell
    have hlt := hv.lt
    have hc0 : w1.cell? ⟨w.heap.size, 0, none⟩ = some (.int .i64 0) := by rw [hb.cell (by simp)]; simp
    have hc2 : w1.cell? ⟨w.heap.size, 1, none⟩ = some (.slice none 0 0) := by rw [hb.cell (by simp)]; simp
    have hf0 : w1.frozen? ⟨w.heap.size, 0, none⟩ = false := by rw [hb.frozen (by simp)]; simp
    have hf2 : w1.frozen? ⟨w.heap.size, 1, none⟩ = false := by rw [hb.frozen (by simp)]; simp
    have HO := Lib.hid ho
    have HB := Lib.hid hb
    clear ho hb hv
    go_wp2
    exact bodyPost_ret (v := .agg #[.int .i64 0, .slice a n c]) (by simp [results, Tryd.results29, go_sem, hc0, hc2]) rfl
      ⟨a, n, c, rfl, owns_mono (owns_set_below (owns_set_below (by simpa using HO.out) _ (by simp) _) _ (by simp) _) (by simp), (((below2 w _ _).trans (HB.out.mono (by simp))).setCell (by simp) _).setCell (by simp) _⟩
end Go.Proofs.YtmgemchpclmknaaDoor
