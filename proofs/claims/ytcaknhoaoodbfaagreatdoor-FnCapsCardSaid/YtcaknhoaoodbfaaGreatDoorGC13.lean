/- l1Chance. -/
import Derived.Test.YtcaknhoaoodbfaaGreatDoorGC1
import Derived.Test.YtcaknhoaoodbfaaGreatDoorGC12
import Derived.Test.YtcaknhoaoodbfaaGreatDoorGC0
import Derived.Laws.BitsAllLaws
import Derived.Test.YtcaknhoaoodbfaaGreatDoorGC9
import Derived.Laws.AppendOwnNone
namespace Go.Proofs.YtcaknhoaoodbfaaGreatDoor
open Go.ChangeShapes Go.WideShapes Go.ChangeAt Go.RowKit
set_option linter.unusedVariables false
theorem l1Chance_any (b : Nat) (a : Option Addr) (n c : Nat) (xs : List Int) (k : Nat) (m : Int) (hm0 : 1 ≤ m) (hm : m ≤ 1000000000) (hk : k < 1000000) (w : World) (h : Src w b a n c xs k) :
    Calls Tryz.prog 96 #[.pointer (some ⟨b, 0, none⟩), .int .i64 m] w fun en w' => (∃ t : Bool, en = .returned (.bool t)) ∧ Src w' b a n c xs (k + 1) ∧ w.grownBy w' (some b) := by
  have K := Lib.hid (l1Next_any b a n c xs k m hm0 hm hk w h)
  clear h
  go_enter Tryz.func96, Tryz.ntmps96
  go_wp2_with fail
  refine K.out.mono ?_
  rintro e w1 ⟨r, rfl, hr, hs, hg⟩
  have HS := Lib.hid hs
  have HG := Lib.hid hg
  clear hs hg hr
  go_wp2
  go_ret
  exact ⟨⟨_, rfl⟩, HS.out, HG.out⟩

end Go.Proofs.YtcaknhoaoodbfaaGreatDoor

/- The draws of FnCaps. -/
namespace Go.Proofs.YtcaknhoaoodbfaaGreatDoor
open Go.ChangeShapes Go.WideShapes Go.ChangeAt Go.RowKit
set_option linter.unusedVariables false

theorem cap_owned {w : World} {B n c size : Nat} {e : TypeId} {a : Option Addr} {xs : List Value} (h : w.ownsRow B e size (.slice a n c) n xs) : CapOk a n c := by
  rcases h.2 with ⟨hv, h0⟩ | ⟨g, cap, cur, hv, hg, hh, hnc, hm, hs, ht⟩
  · simp only [Value.slice.injEq] at hv
    obtain ⟨rfl, rfl, rfl⟩ := hv
    exact ⟨Nat.le_refl _, Nat.zero_le _, fun _ => rfl⟩
  · simp only [Value.slice.injEq] at hv
    obtain ⟨rfl, _, rfl⟩ := hv
    exact ⟨hnc, hm, fun e => by cases e⟩
theorem sts_own2 {w : World} {B n c : Nat} {a : Option Addr} {l : List ByteArray} (hl : l.length = n) (hn : n ≤ 1048576) (h : w.ownsRow B 9 1 (.slice a n c) n (l.map Value.string)) : StsAt w a n c l := by
  refine ⟨hl, by omega, ?_⟩
  rcases h.2 with ⟨hv, h0⟩ | ⟨g, cap, cur, hv, hg, hh, hnc, hm, hs, ht⟩
  · exact .inl h0
  · simp only [Value.slice.injEq] at hv
    obtain ⟨rfl, _, rfl⟩ := hv
    refine .inr ⟨g, 0, rfl, (h.lt g rfl).2, fun i hi => ?_⟩
    rw [Nat.zero_add, h.cellAt i (by omega), List.getElem?_map, List.getD_eq_getElem?_getD, List.getElem?_eq_getElem (by omega)]
    rfl
/-- a disco was drawn of the bytes -/
def TopDis (w : World) (en : Ending) (w' : World) : Prop :=
  ∃ (a1 : Option Addr) (n1 c1 : Nat) (a2 : Option Addr) (n2 c2 : Nat) (d : Dis), en = .returned (.agg #[.slice a1 n1 c1, .slice a2 n2 c2]) ∧ DisAt w' a1 n1 c1 a2 n2 c2 d ∧ SmallDis d ∧ (CapOk a1 n1 c1 ∧ CapOk a2 n2 c2) ∧ n1 ≤ 5 ∧ n2 ≤ 11 ∧ Below w.heap.size w w'
set_option maxRecDepth 100000 in
set_option maxHeartbeats 1600000 in
theorem drawCapsString_any (a : Option Addr) (n c : Nat) (xs : List Int) (w : World) (h : CodeAt w a n c xs) :
    Calls Tryz.prog 39 #[.slice a n c] w (TopDis w) := by
  have HC := Lib.hid (h.below (below1 w (.cells #[.slice none 0 0, .slice none 0 0] 50)))
  have B0 := below1 w (.cells #[.slice none 0 0, .slice none 0 0] 50)
  have X0 := X2.new w 50 (.slice none 0 0) (.slice none 0 0)
  clear h
  unfold TopDis
  go_enter Tryz.func39, Tryz.ntmps39
  go_wp2_with fail
  refine (source_any HC.out).mono ?_
  rintro e w1 ⟨rfl, hs, hb⟩
  rw [World.size_alloc] at hs
  have HS := Lib.hid hs
  have HB := Lib.hid (below_then B0 hb)
  have X1 := X0.grown (grown_of_below hb none) (by simp)
  clear hs hb X0
  go_wp2_with fail
  refine (l9Draw_any _ a n c xs 0 (by decide) _ HS.out).mono ?_
  rintro e w2 ⟨a1, n1, c1, l, a2, n2, c2, ts, k', rfl, o1, o2, hl1, hl2, hs1, hs2, hn1, hn2, hk', hs3, hg⟩
  have hz1 := HB.out.size
  have X2' := X1.grown hg (by simp)
  have u0 := X2'.c0
  have u1 := X2'.c1
  have v0 := X2'.fz 0 (by decide)
  have v1 := X2'.fz 1 (by decide)
  have HB2 := Lib.hid (below_step HB.out hg (by simp))
  have HD : Hid (DisAt w2 a1 n1 c1 a2 n2 c2 ⟨l, ts⟩) := Lib.hid ⟨ids_owned hl1 (by omega) o1, sts_own2 hl2 (by omega) o2⟩
  have HK : Hid (CapOk a1 n1 c1 ∧ CapOk a2 n2 c2) := Lib.hid ⟨cap_owned o1, cap_owned o2⟩
  have HSM : Hid (SmallDis ⟨l, ts⟩) := Lib.hid ⟨⟨by show l.length ≤ _; omega, fun i _ => by obtain ⟨p1, p2, p3, p4⟩ := hs1 i; exact ⟨by show (l.getD i dId).cat.size ≤ _; omega, by show (l.getD i dId).kind.size ≤ _; omega, by show (l.getD i dId).lang.size ≤ _; omega, by show (l.getD i dId).name.size ≤ _; omega⟩⟩, ⟨by show ts.length ≤ _; omega, fun i _ => by have := hs2 i; show (ts.getD i ByteArray.empty).size ≤ _; omega⟩⟩
  have HA1 : Hid (∀ y, a1 = some y → w1.heap.size ≤ y.block) := Lib.hid fun y e => by
    subst e
    rcases o1.2 with ⟨hv, _⟩ | ⟨g, cap, cur, hv, hg, _⟩
    · cases hv
    · simp only [Value.slice.injEq, Option.some.injEq] at hv; rw [hv.1]; exact hg
  have HA2 : Hid (∀ y, a2 = some y → w1.heap.size ≤ y.block) := Lib.hid fun y e => by
    subst e
    rcases o2.2 with ⟨hv, _⟩ | ⟨g, cap, cur, hv, hg, _⟩
    · cases hv
    · simp only [Value.slice.injEq, Option.some.injEq] at hv; rw [hv.1]; exact hg
  clear o1 o2 hl1 hl2 hs1 hs2 hs3 hg X1
  have z0 : _ = some (Value.slice a1 n1 c1) := ((X2'.set0 (.slice a1 n1 c1)).set1 (.slice a2 n2 c2)).c0
  have z1 : _ = some (Value.slice a2 n2 c2) := ((X2'.set0 (.slice a1 n1 c1)).set1 (.slice a2 n2 c2)).c1
  have hz2 : w.heap.size + 1 ≤ w1.heap.size := by have := HS.out.lt; omega
  go_wp2
  refine bodyPost_ret (v := .agg #[.slice a1 n1 c1, .slice a2 n2 c2]) (by simp [results, Tryz.results39, go_sem, z0, z1]) rfl ⟨a1, n1, c1, a2, n2, c2, ⟨l, ts⟩, rfl, ?_, HSM.out, HK.out, hn1, hn2, (HB2.out.setCell (Nat.le_refl _) _).setCell (Nat.le_refl _) _⟩
  have st : ∀ (W : World) (i : Nat) (v : Value), DisAt W a1 n1 c1 a2 n2 c2 ⟨l, ts⟩ → DisAt (W.setCell ⟨w.heap.size, i, none⟩ v) a1 n1 c1 a2 n2 c2 ⟨l, ts⟩ := fun W i v h =>
    ⟨h.ids.set (fun y e => by have := HA1.out y e; show w.heap.size ≠ _; omega), h.feats.set (fun y e => by have := HA2.out y e; show w.heap.size ≠ _; omega)⟩
  exact st _ _ _ (st _ _ _ HD.out)
/-- an identity was drawn of the bytes -/
def TopId (w : World) (en : Ending) (w' : World) : Prop := ∃ x : Ident, en = .returned (.agg #[.string x.cat, .string x.kind, .string x.lang, .string x.name]) ∧ SmallId x ∧ Below w.heap.size w w'
set_option maxRecDepth 100000 in
set_option maxHeartbeats 1600000 in
theorem drawIdentityText_any (a : Option Addr) (n c : Nat) (xs : List Int) (w : World) (h : CodeAt w a n c xs) :
    Calls Tryz.prog 42 #[.slice a n c] w (TopId w) := by
  have HC := Lib.hid (h.below (below1 w (.cells #[.string ⟨#[]⟩, .string ⟨#[]⟩, .string ⟨#[]⟩, .string ⟨#[]⟩] 54)))
  have B0 := below1 w (.cells #[.string ⟨#[]⟩, .string ⟨#[]⟩, .string ⟨#[]⟩, .string ⟨#[]⟩] 54)
  have X0 := X4.new w 54 (.string ⟨#[]⟩) (.string ⟨#[]⟩) (.string ⟨#[]⟩) (.string ⟨#[]⟩)
  clear h
  unfold TopId
  go_enter Tryz.func42, Tryz.ntmps42
  go_wp2_with fail
  refine (source_any HC.out).mono ?_
  rintro e w1 ⟨rfl, hs, hb⟩
  rw [World.size_alloc] at hs
  have hz2 : w.heap.size + 1 ≤ w1.heap.size := by have := hs.lt; omega
  have HS := Lib.hid hs
  have HB := Lib.hid (below_then B0 hb)
  have X1 := X0.grown (grown_of_below hb none) (by simp)
  clear hs hb X0
  go_wp2_with fail
  refine (l9DrawIdentity_any _ a n c xs 0 (by decide) _ HS.out).mono ?_
  rintro e w2 ⟨⟨xa, xb, xc, xd⟩, k', rfl, hx1, hx2, hx3, hx4, hk', hs3, hg⟩
  dsimp only at hx1 hx2 hx3 hx4
  have X2' := (X1.grown hg (by simp)).grown (World.grownBy_alloc w2 (.cells #[.string xa, .string xb, .string xc, .string xd] 54) none) (by simp)
  have HB2 := Lib.hid (below_then (below_step HB.out hg (by simp)) (below1 w2 (.cells #[.string xa, .string xb, .string xc, .string xd] 54)))
  have XB := X4.new w2 54 (.string xa) (.string xb) (.string xc) (.string xd)
  have HS3 := Lib.hid (hs3.alloc (.cells #[.string xa, .string xb, .string xc, .string xd] 54))
  have hw2 : w.heap.size ≤ w2.heap.size := by have := hg.size; omega
  have hne : w2.heap.size ≠ w.heap.size := by have := hg.size; omega
  have hne2 : some w2.heap.size ≠ some (w.heap.size + 1) := by have h1 := hs3.lt; intro e; injection e; omega
  clear hs3 hg X1
  go_wp2_with fail
  refine (l1Chance_any _ a n c xs k' 5 (by decide) (by decide) (by omega) _ HS3.out).mono ?_
  rintro e w3 ⟨⟨t, rfl⟩, hs4, hg4⟩
  have XB3 := XB.grown hg4 hne2
  have XR3 := X2'.grown hg4 (by simp)
  have HB3 := Lib.hid (below_step HB2.out hg4 (by simp))
  clear hs4 hg4 XB X2'
  have u0 := XR3.c0
  have u1 := XR3.c1
  have u2 := XR3.c2
  have u3 := XR3.c3
  have v0 := XR3.fz 0 (by decide)
  have v1 := XR3.fz 1 (by decide)
  have v2 := XR3.fz 2 (by decide)
  have v3 := XR3.fz 3 (by decide)
  have b0 := XB3.c0
  have b1 := XB3.c1
  have b2 := XB3.c2
  have b3 := XB3.c3
  have g2 := XB3.fz 2 (by decide)
  cases t
  · have Z := XR3.fill (.string xa) (.string xb) (.string xc) (.string xd)
    have z0 := Z.c0
    have z1 := Z.c1
    have z2 := Z.c2
    have z3 := Z.c3
    clear Z
    go_wp2
    exact bodyPost_ret (v := .agg #[.string xa, .string xb, .string xc, .string xd]) (by simp [results, Tryz.results42, go_sem, z0, z1, z2, z3]) rfl ⟨⟨xa, xb, xc, xd⟩, rfl, ⟨by show xa.size ≤ _; omega, by show xb.size ≤ _; omega, by show xc.size ≤ _; omega, by show xd.size ≤ _; omega⟩, (((HB3.out.setCell (Nat.le_refl _) _).setCell (Nat.le_refl _) _).setCell (Nat.le_refl _) _).setCell (Nat.le_refl _) _⟩
  · have XR4 : X4 (w3.setCell ⟨w2.heap.size, 2, none⟩ (.string ⟨#[101, 47, 110]⟩)) w.heap.size (.string ⟨#[]⟩) (.string ⟨#[]⟩) (.string ⟨#[]⟩) (.string ⟨#[]⟩) := XR3.grown (grown_set4 w3 ⟨w2.heap.size, 2, none⟩ _) (by intro e; injection e with e; exact hne e.symm)
    have XB4 := XB3.set 2 (.string ⟨#[101, 47, 110]⟩) (by decide)
    have b0 := XB4.c0
    have b1 := XB4.c1
    have b2 := XB4.c2
    have b3 := XB4.c3
    simp only [if_true, if_false, Nat.reduceEqDiff] at b0 b1 b2 b3
    have u0 := XR4.c0
    have u1 := XR4.c1
    have u2 := XR4.c2
    have u3 := XR4.c3
    have v0 := XR4.fz 0 (by decide)
    have v1 := XR4.fz 1 (by decide)
    have v2 := XR4.fz 2 (by decide)
    have v3 := XR4.fz 3 (by decide)
    have Z := XR4.fill (.string xa) (.string xb) (.string ⟨#[101, 47, 110]⟩) (.string xd)
    have z0 := Z.c0
    have z1 := Z.c1
    have z2 := Z.c2
    have z3 := Z.c3
    clear Z
    go_wp2
    exact bodyPost_ret (v := .agg #[.string xa, .string xb, .string ⟨#[101, 47, 110]⟩, .string xd]) (by simp [results, Tryz.results42, go_sem, z0, z1, z2, z3]) rfl ⟨⟨xa, xb, ⟨#[101, 47, 110]⟩, xd⟩, rfl, ⟨by show xa.size ≤ _; omega, by show xb.size ≤ _; omega, by show (3 : Nat) ≤ _; decide, by show xd.size ≤ _; omega⟩, ((((HB3.out.setCell hw2 _).setCell (Nat.le_refl _) _).setCell (Nat.le_refl _) _).setCell (Nat.le_refl _) _).setCell (Nat.le_refl _) _⟩
end Go.Proofs.YtcaknhoaoodbfaaGreatDoor

/- Plain words on a digest. -/
namespace Go.Proofs.YtcaknhoaoodbfaaGreatDoor
set_option linter.unusedVariables false

def In32 (x : Int) : Prop := 0 ≤ x ∧ x ≤ 4294967295
def rotI (x : Int) (k : Nat) : Int := bits .or .u32 (x * 2 ^ k % 4294967296) (x / 2 ^ (32 - k))
def mixF (t : Nat) (b c d : Int) : Int :=
  if t < 20 then bits .or .u32 (bits .and .u32 b c) (bits .and .u32 (bits .xor .u32 IntKind.u32.max b) d) else
  if t < 40 then bits .xor .u32 (bits .xor .u32 b c) d else
  if t < 60 then bits .or .u32 (bits .or .u32 (bits .and .u32 b c) (bits .and .u32 b d)) (bits .and .u32 c d) else
  bits .xor .u32 (bits .xor .u32 b c) d
def mixK (t : Nat) : Int := if t < 20 then 1518500249 else if t < 40 then 1859775393 else if t < 60 then 2400959708 else 3395469782
structure St5 where
  a : Int
  b : Int
  c : Int
  d : Int
  e : Int
def St5.list (s : St5) : List Int := [s.a, s.b, s.c, s.d, s.e]
def St5.In (s : St5) : Prop := In32 s.a ∧ In32 s.b ∧ In32 s.c ∧ In32 s.d ∧ In32 s.e
def stepT (t : Nat) (s : St5) (w : Int) : St5 := ⟨(rotI s.a 5 + mixF t s.b s.c s.d + s.e + mixK t + w) % 4294967296, s.a, rotI s.b 30, s.c, s.d⟩
theorem bits_in (o : BinOp) (a b : Int) : In32 (bits o .u32 a b) := ⟨bits_lo_u32 o a b, bits_hi_u32 o a b⟩
theorem rotI_in (x : Int) (k : Nat) : In32 (rotI x k) := bits_in _ _ _
theorem mixF_in (t : Nat) (b c d : Int) : In32 (mixF t b c d) := by
  unfold mixF
  split
  · exact bits_in _ _ _
  split
  · exact bits_in _ _ _
  split
  · exact bits_in _ _ _
  · exact bits_in _ _ _
theorem mod_in (x : Int) : In32 (x % 4294967296) := by unfold In32; omega
theorem stepT_in (t : Nat) {s : St5} (w : Int) (h : s.In) : (stepT t s w).In := ⟨mod_in _, h.1, rotI_in _ _, h.2.2.1, h.2.2.2.1⟩
/-- the first m bytes of word j, as a number -/
def pw (bs : List Int) (j : Nat) : Nat → Int
  | 0 => 0
  | m + 1 => (pw bs j m * 256 + bs.getD (4 * j + m) 0) % 4294967296
theorem pw_in (bs : List Int) (j m : Nat) : In32 (pw bs j m) := by
  cases m with
  | zero => exact ⟨by simp [pw], by simp [pw]⟩
  | succ m => exact mod_in _
/-- the first words -/
def sched (bs : List Int) : Nat → List Int
  | 0 => []
  | t + 1 => sched bs t ++ [if t < 16 then pw bs t 4 else rotI (bits .xor .u32 (bits .xor .u32 (bits .xor .u32 ((sched bs t).getD (t - 3) 0) ((sched bs t).getD (t - 8) 0)) ((sched bs t).getD (t - 14) 0)) ((sched bs t).getD (t - 16) 0)) 1]
theorem sched_length (bs : List Int) (n : Nat) : (sched bs n).length = n := by
  induction n with
  | zero => rfl
  | succ n ih => simp [sched, ih]
def wd (bs : List Int) (t : Nat) : Int := (sched bs (t + 1)).getD t 0
theorem sched_getD (bs : List Int) (n t : Nat) (h : t < n) : (sched bs n).getD t 0 = wd bs t := by
  induction n with
  | zero => omega
  | succ n ih =>
    by_cases e : t = n
    · subst e; rfl
    · rw [← ih (by omega)]
      simp only [sched]
      rw [List.getD_eq_getElem?_getD, List.getElem?_append_left (by rw [sched_length]; omega), ← List.getD_eq_getElem?_getD]
theorem wd_low (bs : List Int) (t : Nat) (h : t < 16) : wd bs t = pw bs t 4 := by
  unfold wd
  simp only [sched]
  rw [List.getD_eq_getElem?_getD, List.getElem?_append_right (by rw [sched_length]; exact Nat.le_refl _), sched_length, Nat.sub_self, if_pos h]
  rfl
theorem wd_high (bs : List Int) (t : Nat) (h : 16 ≤ t) : wd bs t = rotI (bits .xor .u32 (bits .xor .u32 (bits .xor .u32 (wd bs (t - 3)) (wd bs (t - 8))) (wd bs (t - 14))) (wd bs (t - 16))) 1 := by
  rw [← sched_getD bs t (t - 3) (by omega), ← sched_getD bs t (t - 8) (by omega), ← sched_getD bs t (t - 14) (by omega), ← sched_getD bs t (t - 16) (by omega)]
  conv => lhs; unfold wd
  simp only [sched]
  rw [List.getD_eq_getElem?_getD, List.getElem?_append_right (by rw [sched_length]; exact Nat.le_refl _), sched_length, Nat.sub_self, if_neg (by omega)]
  rfl
theorem wd_in (bs : List Int) (t : Nat) : In32 (wd bs t) := by
  by_cases h : t < 16
  · rw [wd_low bs t h]; exact pw_in _ _ _
  · rw [wd_high bs t (by omega)]; exact rotI_in _ _
/-- the letters behind t steps -/
def turns (bs : List Int) (s : St5) : Nat → St5
  | 0 => s
  | t + 1 => stepT t (turns bs s t) (wd bs t)
theorem turns_in (bs : List Int) {s : St5} (h : s.In) (t : Nat) : (turns bs s t).In := by
  induction t with
  | zero => exact h
  | succ t ih => exact stepT_in _ _ ih
def addS (s t : St5) : St5 := ⟨(s.a + t.a) % 4294967296, (s.b + t.b) % 4294967296, (s.c + t.c) % 4294967296, (s.d + t.d) % 4294967296, (s.e + t.e) % 4294967296⟩
theorem addS_in (s t : St5) : (addS s t).In := ⟨mod_in _, mod_in _, mod_in _, mod_in _, mod_in _⟩
def withB (s : St5) (bs : List Int) : St5 := addS s (turns bs s 80)
def sha0 : St5 := ⟨1732584193, 4023233417, 2562383102, 271733878, 3285377520⟩
theorem sha0_in : sha0.In := by refine ⟨?_, ?_, ?_, ?_, ?_⟩ <;> (unfold In32 sha0; decide)
def blkAt (p : List Int) (k : Nat) : List Int := (p.drop (64 * k)).take 64
def shaSt (p : List Int) : Nat → St5
  | 0 => sha0
  | k + 1 => withB (shaSt p k) (blkAt p k)
theorem shaSt_in (p : List Int) (k : Nat) : (shaSt p k).In := by
  cases k with
  | zero => exact sha0_in
  | succ k => exact addS_in _ _
/-- how many noughts fill the last block -/
def fills (n : Nat) : Nat := (119 - n % 64) % 64
/-- the lowest bytes of a number, the highest first -/
def highs (n : Int) : Nat → List Int
  | 0 => []
  | k + 1 => n / 2 ^ (8 * k) % 256 :: highs n k
def padL (xs : List Int) : List Int := xs ++ [128] ++ List.replicate (fills xs.length) 0 ++ highs (8 * xs.length) 8
theorem highs_length (n : Int) (k : Nat) : (highs n k).length = k := by induction k with | zero => rfl | succ k ih => simp [highs, ih]
theorem padL_length (xs : List Int) : (padL xs).length = 64 * ((xs.length + 72) / 64) := by
  unfold padL fills
  simp only [List.length_append, List.length_replicate, highs_length, List.length_cons, List.length_nil]
  omega
def wordB (x : Int) : List Int := highs x 4
def shaL (xs : List Int) : List Int :=
  let s := shaSt (padL xs) ((xs.length + 72) / 64)
  wordB s.a ++ wordB s.b ++ wordB s.c ++ wordB s.d ++ wordB s.e
theorem shaL_length (xs : List Int) : (shaL xs).length = 20 := by simp [shaL, wordB, highs_length]
def shaCode (xs : List Int) : Int := if 3000 < xs.length then 2 else 0
def shaBytes (xs : List Int) : List Int := if 3000 < xs.length then [] else shaL xs
theorem highs_mem (n : Int) (k : Nat) : ∀ x ∈ highs n k, 0 ≤ x ∧ x ≤ 255 := by
  induction k with
  | zero => intro x hx; cases hx
  | succ k ih =>
    intro x hx
    rcases List.mem_cons.1 hx with rfl | hx
    · constructor <;> omega
    · exact ih x hx
theorem shaL_mem (xs : List Int) : ∀ x ∈ shaL xs, 0 ≤ x ∧ x ≤ 255 := by
  intro x hx
  unfold shaL wordB at hx
  simp only [List.mem_append] at hx
  rcases hx with (((h | h) | h) | h) | h
  all_goals exact highs_mem _ _ x h
theorem padL_mem {xs : List Int} (h : ∀ x ∈ xs, 0 ≤ x ∧ x ≤ 255) : ∀ x ∈ padL xs, 0 ≤ x ∧ x ≤ 255 := by
  intro x hx
  unfold padL at hx
  simp only [List.mem_append, List.mem_cons, List.mem_nil_iff, or_false] at hx
  rcases hx with ((h1 | rfl) | h1) | h1
  · exact h x h1
  · decide
  · rw [(List.mem_replicate.1 h1).2]; decide
  · exact highs_mem _ _ x h1
end Go.Proofs.YtcaknhoaoodbfaaGreatDoor

/- Plain words on what is written in base 64. -/
namespace Go.Proofs.YtcaknhoaoodbfaaGreatDoor
set_option linter.unusedVariables false

def b64Signs : ByteArray := { data := #[65, 66, 67, 68, 69, 70, 71, 72, 73, 74, 75, 76, 77, 78, 79, 80, 81, 82, 83, 84, 85, 86, 87, 88, 89, 90, 97, 98, 99, 100, 101, 102, 103, 104, 105, 106, 107, 108, 109, 110, 111, 112, 113, 114, 115, 116, 117, 118, 119, 120, 121, 122, 48, 49, 50, 51, 52, 53, 54, 55, 56, 57, 43, 47] }
/-- a group of up to three bytes as a number -/
def grpN (g : List Int) : Int := g.getD 0 0 * 65536 + g.getD 1 0 * 256 + g.getD 2 0
/-- the i-th sign of a group -/
def grpS (g : List Int) (i : Nat) : UInt8 := if g.length < i then 61 else b64Signs.data.toList.getD (grpN g / 2 ^ (18 - 6 * i) % 64).toNat 0
def grpL (g : List Int) : List UInt8 := [grpS g 0, grpS g 1, grpS g 2, grpS g 3]
/-- the group at a place -/
def grpAt (xs : List Int) (k : Nat) : List Int := (xs.drop (3 * k)).take 3
def b64N (xs : List Int) : Nat := (xs.length + 2) / 3
def b64Pre (xs : List Int) (k : Nat) : List UInt8 := (List.range k).flatMap fun i => grpL (grpAt xs i)
def b64L (xs : List Int) : List UInt8 := b64Pre xs (b64N xs)
theorem b64Pre_succ (xs : List Int) (k : Nat) : b64Pre xs (k + 1) = b64Pre xs k ++ grpL (grpAt xs k) := by simp [b64Pre, List.range_succ]
theorem b64Pre_length (xs : List Int) (k : Nat) : (b64Pre xs k).length = 4 * k := by
  induction k with
  | zero => rfl
  | succ k ih => rw [b64Pre_succ, List.length_append, ih]; simp [grpL]; omega
theorem grpN_bounds {g : List Int} (h : ∀ x ∈ g, 0 ≤ x ∧ x ≤ 255) : 0 ≤ grpN g ∧ grpN g ≤ 16777215 := by
  have k : ∀ i, 0 ≤ g.getD i 0 ∧ g.getD i 0 ≤ 255 := fun i => by
    rw [List.getD_eq_getElem?_getD]
    rcases Nat.lt_or_ge i g.length with hi | hi
    · rw [List.getElem?_eq_getElem hi]
      exact h _ (List.getElem_mem hi)
    · rw [List.getElem?_eq_none hi]
      decide
  have := k 0
  have := k 1
  have := k 2
  unfold grpN
  omega
theorem grpAt_mem {xs : List Int} (h : ∀ x ∈ xs, 0 ≤ x ∧ x ≤ 255) (k : Nat) : ∀ x ∈ grpAt xs k, 0 ≤ x ∧ x ≤ 255 :=
  fun x hx => h x (List.mem_of_mem_drop (List.mem_of_mem_take hx))
theorem grpAt_length (xs : List Int) (k : Nat) : (grpAt xs k).length = min 3 (xs.length - 3 * k) := by simp [grpAt]
theorem grpAt_getD (xs : List Int) (k i : Nat) (hi : i < 3) : (grpAt xs k).getD i 0 = xs.getD (3 * k + i) 0 := by
  unfold grpAt
  rw [List.getD_eq_getElem?_getD, List.getD_eq_getElem?_getD, List.getElem?_take, if_pos hi, List.getElem?_drop]
def b64Code (xs : List Int) : Int := if 3000 < xs.length then 2 else 0
def b64Text (xs : List Int) : ByteArray := if 3000 < xs.length then ByteArray.empty else ⟨(b64L xs).toArray⟩
end Go.Proofs.YtcaknhoaoodbfaaGreatDoor

/- What has no fault is short: the name of what somebody can do, in plain words. -/
namespace Go.Proofs.YtcaknhoaoodbfaaGreatDoor
set_option linter.unusedVariables false

theorem textFault_len {l : List UInt8} (h : textFault l = 0) : l.length ≤ 60 := by
  unfold textFault at h
  by_cases h6 : 60 < l.length
  · rw [if_pos h6] at h; cases h
  · omega
theorem fieldB_len {s : ByteArray} {e sl : Bool} (h : fieldB s e sl = true) : s.size ≤ 60 := by
  unfold fieldB fldB at h
  simp only [Bool.and_eq_true, beq_iff_eq] at h
  have := textFault_len h.1.1.1
  simpa using this
theorem identT_len {x : Ident} (h : identB x = true) : (identT x).size ≤ 243 := by
  unfold identB at h
  simp only [Bool.and_eq_true] at h
  have h1 := fieldB_len h.1.1.1
  have h2 := fieldB_len h.1.1.2
  have h3 := fieldB_len h.1.2
  have h4 := fieldB_len h.2
  unfold identT
  simp only [ByteArray.size_append]
  have : slash.size = 1 := rfl
  omega
theorem linesT_few : ∀ (l : List ByteArray) (m : Nat), (∀ x ∈ l, x.size ≤ m) → (linesT l).length ≤ (m + 1) * l.length
  | [], m, _ => by simp [linesT]
  | x :: l, m, h => by
    have h1 := h x (List.mem_cons_self ..)
    have h2 := linesT_few l m (fun y hy => h y (List.mem_cons_of_mem _ hy))
    have e1 : x.data.toList.length = x.size := rfl
    have e2 : linesT (x :: l) = (x.data.toList ++ [60]) ++ linesT l := by simp [linesT]
    rw [e2]
    simp only [List.length_append, e1, List.length_cons, List.length_nil, Nat.mul_add]
    omega
theorem dis_right {d : Dis} (h : disCode d = 0) : d.ids.length ≤ 6 ∧ d.feats.length ≤ 10 ∧ (∀ i, i < d.ids.length → identB (d.ids.getD i dId) = true) ∧ (∀ i, i < d.feats.length → fieldB (d.feats.getD i ByteArray.empty) false true = true) := by
  unfold disCode at h
  by_cases hm : manyD d = true
  · rw [if_pos hm] at h; cases h
  rw [if_neg hm] at h
  by_cases hw : wrongD d = true
  · rw [if_pos hw] at h; cases h
  unfold manyD at hm
  simp at hm
  unfold wrongD at hw
  rw [Bool.not_eq_true, Bool.or_eq_false_iff, Bool.not_eq_false', Bool.not_eq_false', List.all_eq_true, List.all_eq_true] at hw
  exact ⟨hm.1, hm.2, fun i hi => hw.1 i (List.mem_range.2 hi), fun i hi => hw.2 i (List.mem_range.2 hi)⟩
theorem caps_len {d : Dis} (h : disCode d = 0) : (capsL d).length ≤ 3000 := by
  obtain ⟨h1, h2, h3, h4⟩ := dis_right h
  unfold capsL
  rw [List.length_append]
  have a1 := linesT_few (sortT (d.ids.map identT)) 243 (fun x hx => by
    obtain ⟨y, hy, rfl⟩ := List.mem_map.1 ((sortT_perm _).mem_iff.1 hx)
    obtain ⟨i, hi, rfl⟩ := List.getElem_of_mem hy
    have := h3 i hi
    rw [List.getD_eq_getElem?_getD, List.getElem?_eq_getElem hi] at this
    exact identT_len this)
  have a2 := linesT_few (sortT d.feats) 60 (fun x hx => by
    obtain ⟨i, hi, rfl⟩ := List.getElem_of_mem ((sortT_perm _).mem_iff.1 hx)
    have := h4 i hi
    rw [List.getD_eq_getElem?_getD, List.getElem?_eq_getElem hi] at this
    exact fieldB_len this)
  rw [(sortT_perm _).length_eq] at a1 a2
  rw [List.length_map] at a1
  omega
/-- the name -/
def capsNums (d : Dis) : List Int := (capsL d).map fun u => (u.toNat : Int)
def capsName (d : Dis) : ByteArray := if disCode d = 0 then ⟨(b64L (shaL (capsNums d))).toArray⟩ else ByteArray.empty
theorem capsNums_len (d : Dis) : (capsNums d).length = (capsL d).length := by simp [capsNums]
theorem capsNums_byte (d : Dis) (i : Nat) : 0 ≤ (capsNums d).getD i 0 ∧ (capsNums d).getD i 0 ≤ 255 := by
  unfold capsNums
  rw [List.getD_eq_getElem?_getD, List.getElem?_map]
  cases (capsL d)[i]? with
  | none => simp
  | some u =>
    have := u.toNat_lt
    simp
    omega
end Go.Proofs.YtcaknhoaoodbfaaGreatDoor

/- The order in which a disco is told turns nothing; how many lines there are; how long the name is. -/
namespace Go.Proofs.YtcaknhoaoodbfaaGreatDoor
set_option linter.unusedVariables false

theorem sameId_symm (x y : Ident) : sameId x y = sameId y x := by
  unfold sameId
  have e : ∀ s t : ByteArray, (s.toList == t.toList) = (t.toList == s.toList) := fun s t => by
    rw [Bool.eq_iff_iff, beq_iff_eq, beq_iff_eq]
    exact ⟨fun h => h.symm, fun h => h.symm⟩
  rw [e x.cat, e x.kind, e x.lang]
theorem sameT_symm (s t : ByteArray) : sameT s t = sameT t s := by
  unfold sameT
  rw [Bool.eq_iff_iff, beq_iff_eq, beq_iff_eq]
  exact ⟨fun h => h.symm, fun h => h.symm⟩
theorem twice_pair {α : Type} (d : α) (f : α → α → Bool) (hf : ∀ x y, f x y = f y x) (l : List α) :
    ((List.range l.length).any fun i => (List.range i).any fun k => f (l.getD i d) (l.getD k d)) = false ↔ l.Pairwise fun x y => f x y = false := by
  rw [List.pairwise_iff_getElem]
  have g : ∀ (i : Nat) (hi : i < l.length), l.getD i d = l[i] := fun i hi => by rw [List.getD_eq_getElem?_getD, List.getElem?_eq_getElem hi]; rfl
  constructor
  · intro h i j hi hj hij
    rw [List.any_eq_false] at h
    have h1 := h j (List.mem_range.2 hj)
    rw [Bool.not_eq_true, List.any_eq_false] at h1
    have h2 := h1 i (List.mem_range.2 hij)
    rw [Bool.not_eq_true, g j hj, g i hi] at h2
    rw [hf]
    exact h2
  · intro h
    exact twice_not fun i hi k hk => by
      rw [g i hi, g k (by omega), hf]
      exact h k i (by omega) hi hk
theorem twiceI_perm {l m : List Ident} (h : l.Perm m) : twiceI l = twiceI m := by
  have e : ∀ l m : List Ident, l.Perm m → twiceI l = false → twiceI m = false := fun l m h hl => by
    unfold twiceI at hl ⊢
    rw [twice_pair dId sameId sameId_symm] at hl ⊢
    exact (h.pairwise_iff (fun {x y} hxy => by rw [sameId_symm]; exact hxy)).1 hl
  cases hl : twiceI l with
  | false => exact (e l m h hl).symm
  | true =>
    cases hm : twiceI m with
    | false => rw [e m l h.symm hm] at hl; cases hl
    | true => rfl
theorem twiceS_perm {l m : List ByteArray} (h : l.Perm m) : twiceS l = twiceS m := by
  have e : ∀ l m : List ByteArray, l.Perm m → twiceS l = false → twiceS m = false := fun l m h hl => by
    unfold twiceS at hl ⊢
    rw [twice_pair ByteArray.empty sameT sameT_symm] at hl ⊢
    exact (h.pairwise_iff (fun {x y} hxy => by rw [sameT_symm]; exact hxy)).1 hl
  cases hl : twiceS l with
  | false => exact (e l m h hl).symm
  | true =>
    cases hm : twiceS m with
    | false => rw [e m l h.symm hm] at hl; cases hl
    | true => rfl
theorem all_perm {α : Type} (d : α) (f : α → Bool) {l m : List α} (h : l.Perm m) : ((List.range l.length).all fun i => f (l.getD i d)) = ((List.range m.length).all fun i => f (m.getD i d)) := by
  have e : ∀ l : List α, ((List.range l.length).all fun i => f (l.getD i d)) = l.all f := fun l => by
    rw [Bool.eq_iff_iff, List.all_eq_true, List.all_eq_true]
    constructor
    · intro h x hx
      obtain ⟨i, hi, rfl⟩ := List.getElem_of_mem hx
      have := h i (List.mem_range.2 hi)
      rwa [List.getD_eq_getElem?_getD, List.getElem?_eq_getElem hi] at this
    · intro h i hi
      have hi := List.mem_range.1 hi
      rw [List.getD_eq_getElem?_getD, List.getElem?_eq_getElem hi]
      exact h _ (List.getElem_mem hi)
  rw [e, e, Bool.eq_iff_iff, List.all_eq_true, List.all_eq_true]
  exact ⟨fun g x hx => g x (h.mem_iff.2 hx), fun g x hx => g x (h.mem_iff.1 hx)⟩
theorem disCode_perm {d e : Dis} (h1 : d.ids.Perm e.ids) (h2 : d.feats.Perm e.feats) : disCode d = disCode e := by
  unfold disCode manyD wrongD
  rw [h1.length_eq, h2.length_eq, twiceI_perm h1, twiceS_perm h2]
  have a1 := all_perm dId identB h1
  have a2 := all_perm ByteArray.empty (fun s => fieldB s false true) h2
  rw [h1.length_eq] at a1
  rw [h2.length_eq] at a2
  rw [a1, a2]
theorem capsL_perm {d e : Dis} (h1 : d.ids.Perm e.ids) (h2 : d.feats.Perm e.feats) : capsL d = capsL e := by
  unfold capsL
  rw [sortT_eq h2, sortT_eq (h1.map identT)]
theorem capsText_perm {d e : Dis} (h1 : d.ids.Perm e.ids) (h2 : d.feats.Perm e.feats) : capsText d = capsText e := by
  unfold capsText
  rw [disCode_perm h1 h2, capsL_perm h1 h2]
theorem capsName_perm {d e : Dis} (h1 : d.ids.Perm e.ids) (h2 : d.feats.Perm e.feats) : capsName d = capsName e := by
  unfold capsName capsNums
  rw [disCode_perm h1 h2, capsL_perm h1 h2]
theorem capsName_size {d : Dis} (h : disCode d = 0) : (capsName d).size = 28 := by
  unfold capsName
  rw [if_pos h]
  show (b64L _).toArray.size = 28
  rw [List.size_toArray]
  unfold b64L
  rw [b64Pre_length]
  unfold b64N
  rw [shaL_length]
/-- how many of the first k bytes are the mark -/
def marksTo (l : List UInt8) (k : Nat) : Nat := (l.take k).countP fun b => b == 60
theorem marks_none {l : List UInt8} (h : ∀ b ∈ l, b ≠ 60) : l.countP (fun b => b == 60) = 0 := by
  rw [List.countP_eq_zero]
  intro b hb
  simp [h b hb]
theorem linesT_marks : ∀ (l : List ByteArray), (∀ x ∈ l, hasB 60 x = false) → (linesT l).countP (fun b => b == 60) = l.length
  | [], _ => rfl
  | x :: l, h => by
    have e2 : linesT (x :: l) = (x.data.toList ++ [60]) ++ linesT l := by simp [linesT]
    rw [e2, List.countP_append, List.countP_append, linesT_marks l (fun y hy => h y (List.mem_cons_of_mem _ hy)), marks_none]
    · simp; omega
    · intro b hb e
      subst e
      have h1 := h x (List.mem_cons_self ..)
      unfold hasB at h1
      rw [List.any_eq_false] at h1
      have := h1 60 hb
      simp at this
theorem field_mark {s : ByteArray} {e sl : Bool} (h : fieldB s e sl = true) : hasB 60 s = false := by
  unfold fieldB fldB at h
  simp only [Bool.and_eq_true, Bool.not_eq_true'] at h
  exact h.1.1.2
theorem identT_mark {x : Ident} (h : identB x = true) : hasB 60 (identT x) = false := by
  unfold identB at h
  simp only [Bool.and_eq_true] at h
  unfold identT
  simp only [hasB_append, field_mark h.1.1.1, field_mark h.1.1.2, field_mark h.1.2, field_mark h.2]
  rfl
theorem caps_marks {d : Dis} (h : disCode d = 0) : (capsL d).countP (fun b => b == 60) = d.ids.length + d.feats.length := by
  obtain ⟨_, _, h3, h4⟩ := dis_right h
  unfold capsL
  rw [List.countP_append, linesT_marks, linesT_marks, (sortT_perm _).length_eq, (sortT_perm _).length_eq, List.length_map]
  · intro x hx
    obtain ⟨i, hi, rfl⟩ := List.getElem_of_mem ((sortT_perm _).mem_iff.1 hx)
    have := h4 i hi
    rw [List.getD_eq_getElem?_getD, List.getElem?_eq_getElem hi] at this
    exact field_mark this
  · intro x hx
    obtain ⟨y, hy, rfl⟩ := List.mem_map.1 ((sortT_perm _).mem_iff.1 hx)
    obtain ⟨i, hi, rfl⟩ := List.getElem_of_mem hy
    have := h3 i hi
    rw [List.getD_eq_getElem?_getD, List.getElem?_eq_getElem hi] at this
    exact identT_mark this
end Go.Proofs.YtcaknhoaoodbfaaGreatDoor

/- What FnCaps turns round: a disco of one's own that grows, and what an order does to lists. -/
namespace Go.Proofs.YtcaknhoaoodbfaaGreatDoor
open Go.ChangeShapes Go.WideShapes Go.ChangeAt Go.RowKit
set_option linter.unusedVariables false

/-- append of a slice that may be nil, to a row of the call's own, as one step of a region that draws its order -/
theorem step_own_any {P : Program} {ops : Array Oper} {o : Oper} {a : Act} {w : World} {K : Act → World → Prop} {Q : Exit → Act → World → Prop} {E : Prop} (hw : Region.wanted o (yielded ops a.tmps) = true) (s x : Operand) (t : TypeId)
    (ho : o.op = .call { callee := .builtin .append, args := #[s, x], argTypes := #[t, t] })
    (e : TypeId) (i : TypeInfo) (z : Value) (size bytes : Nat) (ht : P.underlying t = some (.slice e)) (hi : P.info? e = some i) (hz : i.zero = some z) (hsize : i.size = size) (hby : i.bytes = bytes) (hzc : z.cells.size = size) (hpos : 0 < size)
    (base : Nat) (v : Value) (n : Nat) (xs : List Value) (hs : a.eval s = v) (hown : w.ownsRow base e size v n xs)
    (ao : Option Addr) (m c : Nat) (ys : List Value) (hx : a.eval x = .slice ao m c) (hao : ao = none → m = 0 ∧ c = 0) (hn : ys.length = m * size) (hcells : ∀ ad, ao = some ad → ∀ j u, ys[j]? = some u → w.cell? (ad.add j) = some u) (h1c : ∀ u ∈ ys, u.oneCell' = true)
    (b1 : n + m ≤ maxLen) (b2 : (n + m) * bytes ≤ 140737488355328) (hbase : base ≤ w.heap.size)
    (h : ∀ v' w', w'.ownsRow base e size v' (n + m) (xs ++ ys) → w.grownBy w' v.ownBlock → (v'.ownBlock = v.ownBlock ∨ v'.ownBlock = some w.heap.size) → K (a.put o.dst v') w') :
    if Region.wanted o (yielded ops a.tmps) = true then Oper.wp P o a w K Q else E := by
  cases ao with
  | some ad => exact step_own_at hw s x t ho e i z size bytes ht hi hz hsize hby hzc hpos base v n xs hs hown ad m c ys hx hn (hcells ad rfl) h1c b1 b2 hbase h
  | none =>
    obtain ⟨rfl, rfl⟩ := hao rfl
    obtain rfl : ys = [] := List.eq_nil_of_length_eq_zero (by simpa using hn)
    rw [if_pos hw]
    have hr := run_append_owned_none (P := P) (w := w) base t o.type e i size ht hi v n xs hown
    unfold Oper.wp execOp
    simp only [ho, resolve, invoke, builtin, Sem.run_bind, Sem.run_pure, Result.andThen_ok, List.map_toArray, List.map_cons, List.map_nil, hs, hx, hr]
    exact h v w (by simpa using hown) ⟨rfl, rfl, rfl, Nat.le_refl _, fun _ _ _ => rfl⟩ (.inl rfl)

theorem rev_snoc (l : List Ident) (k : Nat) (hk : k < l.length) : l.reverse.take (k + 1) = l.reverse.take k ++ [l.getD (l.length - 1 - k) dId] := by
  rw [List.take_add_one, List.getElem?_reverse hk, List.getD_eq_getElem?_getD, List.getElem?_eq_getElem (by omega)]
  rfl
theorem smallIds_mem {l : List Ident} : SmallIds l ↔ l.length ≤ 1048576 ∧ ∀ x ∈ l, SmallId x := by
  unfold SmallIds
  refine and_congr_right fun _ => ⟨fun h x hx => ?_, fun h i hi => ?_⟩
  · obtain ⟨i, hi, rfl⟩ := List.getElem_of_mem hx
    have := h i hi
    rwa [List.getD_eq_getElem?_getD, List.getElem?_eq_getElem hi] at this
  · rw [List.getD_eq_getElem?_getD, List.getElem?_eq_getElem hi]
    exact h _ (List.getElem_mem hi)
theorem smallSts_mem {l : List ByteArray} : SmallSts l ↔ l.length ≤ 1048576 ∧ ∀ x ∈ l, x.size ≤ 1048576 := by
  unfold SmallSts
  refine and_congr_right fun _ => ⟨fun h x hx => ?_, fun h i hi => ?_⟩
  · obtain ⟨i, hi, rfl⟩ := List.getElem_of_mem hx
    have := h i hi
    rwa [List.getD_eq_getElem?_getD, List.getElem?_eq_getElem hi] at this
  · rw [List.getD_eq_getElem?_getD, List.getElem?_eq_getElem hi]
    exact h _ (List.getElem_mem hi)
/-- the identities the other way round, the features from one of them on -/
def turned (d : Dis) (z : Nat) : Dis := ⟨d.ids.reverse, d.feats.drop z ++ d.feats.take z⟩
theorem turned_ids (d : Dis) (z : Nat) : (turned d z).ids.Perm d.ids := List.reverse_perm _
theorem turned_feats (d : Dis) (z : Nat) : (turned d z).feats.Perm d.feats := by
  show (d.feats.drop z ++ d.feats.take z).Perm d.feats
  refine List.perm_append_comm.trans ?_
  rw [List.take_append_drop]
theorem turned_small {d : Dis} (z : Nat) (h : SmallDis d) : SmallDis (turned d z) := by
  obtain ⟨h1, h2⟩ := h
  rw [smallIds_mem] at h1
  rw [smallSts_mem] at h2
  refine ⟨smallIds_mem.2 ⟨by rw [(turned_ids d z).length_eq]; exact h1.1, fun x hx => h1.2 x ((turned_ids d z).mem_iff.1 hx)⟩, smallSts_mem.2 ⟨by rw [(turned_feats d z).length_eq]; exact h2.1, fun x hx => h2.2 x ((turned_feats d z).mem_iff.1 hx)⟩⟩
theorem turned_code (d : Dis) (z : Nat) : capsCode (turned d z) = capsCode d := disCode_perm (turned_ids d z) (turned_feats d z)
theorem turned_text (d : Dis) (z : Nat) : capsText (turned d z) = capsText d := capsText_perm (turned_ids d z) (turned_feats d z)
theorem turned_name (d : Dis) (z : Nat) : capsName (turned d z) = capsName d := capsName_perm (turned_ids d z) (turned_feats d z)
theorem turned_len (d : Dis) (z : Nat) : (turned d z).feats.length = d.feats.length := (turned_feats d z).length_eq
theorem text_marks {d : Dis} (h : capsCode d = 0) : (capsText d).data.toList.countP (fun b => b == 60) = d.ids.length + d.feats.length := by
  have h : disCode d = 0 := h
  unfold capsText
  rw [if_pos h]
  exact caps_marks h
theorem text_size {d : Dis} (h : capsCode d = 0) : (capsText d).size ≤ 3000 := by
  have h : disCode d = 0 := h
  unfold capsText
  rw [if_pos h]
  exact caps_len h
theorem marks_next (s : ByteArray) (k : Nat) (hk : k < s.size) : marksTo s.data.toList (k + 1) = marksTo s.data.toList k + if ((s[k].toNat : Int) == 60) = true then 1 else 0 := by
  have hk2 : k < s.data.toList.length := by simpa using hk
  unfold marksTo
  rw [List.take_add_one, List.getElem?_eq_getElem hk2, Option.toList_some, List.countP_append, List.countP_singleton]
  have e : s.data.toList[k] = s[k] := rfl
  rw [e]
  have e2 : (s[k] == 60) = ((s[k].toNat : Int) == 60) := by
    rw [Bool.eq_iff_iff, beq_iff_eq, beq_iff_eq]
    constructor
    · intro h; rw [h]; rfl
    · intro h
      apply UInt8.toNat_inj.1
      have h2 : s[k].toNat = 60 := by omega
      rw [h2]; rfl
  rw [e2]
theorem marks_all (s : ByteArray) : marksTo s.data.toList s.size = s.data.toList.countP (fun b => b == 60) := by
  unfold marksTo
  rw [List.take_of_length_le (by simp)]
theorem marks_le (l : List UInt8) (k : Nat) : marksTo l k ≤ k := by
  unfold marksTo
  exact Nat.le_trans List.countP_le_length (by rw [List.length_take]; omega)
theorem strs_one (ts : List ByteArray) : ∀ u ∈ ts.map Value.string, u.oneCell' = true := by
  intro u hu
  obtain ⟨x, _, rfl⟩ := List.mem_map.1 hu
  rfl
theorem sts_cells {w : World} {a : Option Addr} {n c : Nat} {ts : List ByteArray} (h : StsAt w a n c ts) (z : Nat) (ad : Addr) (ha : a = some ad) : ∀ j u, ((ts.drop z).map Value.string)[j]? = some u → w.cell? ((ad.add z).add j) = some u := by
  intro j u hj
  rw [List.getElem?_map, List.getElem?_drop] at hj
  have hlt : z + j < ts.length := by
    rcases Nat.lt_or_ge (z + j) ts.length with h1 | h1
    · exact h1
    · rw [List.getElem?_eq_none h1] at hj; cases hj
  have hl := h.len
  rcases h.row with e | ⟨b, o, ea, hb, hc⟩
  · omega
  · rw [ha] at ea
    cases ea
    rw [Addr.add_lit, Addr.add_lit, Nat.add_assoc, hc (z + j) (by omega), ← hj, List.getD_eq_getElem?_getD, List.getElem?_eq_getElem hlt]
    rfl
theorem sts_take {w : World} {a : Option Addr} {n c : Nat} {ts : List ByteArray} (h : StsAt w a n c ts) (z : Nat) (ad : Addr) (ha : a = some ad) : ∀ j u, ((ts.take z).map Value.string)[j]? = some u → w.cell? (ad.add j) = some u := by
  intro j u hj
  have hlt : j < (ts.take z).length := by
    rcases Nat.lt_or_ge j (ts.take z).length with h1 | h1
    · exact h1
    · rw [List.getElem?_map, List.getElem?_eq_none h1] at hj; cases hj
  have hlt2 : j < ts.length := by rw [List.length_take] at hlt; omega
  have hl := h.len
  rw [List.getElem?_map, List.getElem?_take_of_lt (by rw [List.length_take] at hlt; omega)] at hj
  rcases h.row with e | ⟨b, o, ea, hb, hc⟩
  · omega
  · rw [ha] at ea
    cases ea
    rw [Addr.add_lit, hc j (by omega), ← hj, List.getD_eq_getElem?_getD, List.getElem?_eq_getElem hlt2]
    rfl
/-- a disco of the law's own: its box in w0, its two rows behind w0 -/
structure BSt (w0 W : World) (x : Nat) (a1 : Option Addr) (n1 c1 : Nat) (l : List Ident) (a2 : Option Addr) (n2 c2 : Nat) (ts : List ByteArray) : Prop where
  lt : x < w0.heap.size
  box : X2 W x (.slice a1 n1 c1) (.slice a2 n2 c2)
  o1 : W.ownsRow w0.heap.size 54 4 (.slice a1 n1 c1) n1 (idFlat l)
  o2 : W.ownsRow w0.heap.size 9 1 (.slice a2 n2 c2) n2 (ts.map Value.string)
  gr : w0.grownBy W (some x)
  l1 : l.length = n1
  l2 : ts.length = n2
theorem BSt.new (w : World) (T : TypeId) : BSt (w.alloc (.cells #[.slice none 0 0, .slice none 0 0] T)) (w.alloc (.cells #[.slice none 0 0, .slice none 0 0] T)) w.heap.size none 0 0 [] none 0 0 [] :=
  ⟨by simp, X2.new w T _ _, World.ownsRow_nil _ _ _ _, World.ownsRow_nil _ _ _ _, ⟨rfl, rfl, rfl, Nat.le_refl _, fun _ _ _ => rfl⟩, rfl, rfl⟩
theorem BSt.below {w0 W W' : World} {x : Nat} {a1 : Option Addr} {n1 c1 : Nat} {l : List Ident} {a2 : Option Addr} {n2 c2 : Nat} {ts : List ByteArray} (h : BSt w0 W x a1 n1 c1 l a2 n2 c2 ts) (hb : Below W.heap.size W W') : BSt w0 W' x a1 n1 c1 l a2 n2 c2 ts :=
  ⟨h.lt, h.box.grown (grown_of_below hb none) (by simp), h.o1.kept (grown_of_below hb none) (owns_alt h.o1 _ fun g hg e => by cases e), h.o2.kept (grown_of_below hb none) (owns_alt h.o2 _ fun g hg e => by cases e), grown_trans_row h.gr (grown_of_below hb _), h.l1, h.l2⟩
theorem BSt.own {w0 W W' : World} {x : Nat} {a1 : Option Addr} {n1 c1 : Nat} {l : List Ident} {a2 : Option Addr} {n2 c2 : Nat} {ts : List ByteArray} (h : BSt w0 W x a1 n1 c1 l a2 n2 c2 ts) {row : Option Nat} (hg : W.grownBy W' row) (hr : ∀ g, row = some g → w0.heap.size ≤ g) :
    X2 W' x (.slice a1 n1 c1) (.slice a2 n2 c2) ∧ w0.grownBy W' (some x) := by
  have hlt := h.lt
  have h1 := h.gr
  exact ⟨h.box.grown hg (fun e => by have := hr _ e.symm; omega), ⟨hg.os.trans h1.os, hg.tape.trans h1.tape, hg.output.trans h1.output, Nat.le_trans h1.size hg.size, fun i hi hne => (hg.block i (Nat.lt_of_lt_of_le hi h1.size) (fun e => by have := hr _ e.symm; omega)).trans (h1.block i hi hne)⟩⟩
theorem grown_put {w W : World} {x : Nat} (h : w.grownBy W (some x)) {p : Addr} (hp : p.block = x) (v : Value) : w.grownBy (W.setCell p v) (some x) :=
  ⟨h.os, h.tape, h.output, by have := h.size; simpa [World.setCell] using this, fun k hk hne => by
    rw [← h.block k hk hne]
    exact Below.heap_setCell W p v k (fun e => hne (by rw [e, hp]))⟩
/-- one more identity -/
theorem BSt.setI {w0 W W' : World} {x : Nat} {a1 : Option Addr} {n1 c1 : Nat} {l : List Ident} {a2 : Option Addr} {n2 c2 : Nat} {ts : List ByteArray} (h : BSt w0 W x a1 n1 c1 l a2 n2 c2 ts) {a' : Option Addr} {n' c' : Nat} {l' : List Ident}
    (hg : W.grownBy W' (Value.slice a1 n1 c1).ownBlock) (ho : W'.ownsRow w0.heap.size 54 4 (.slice a' n' c') n' (idFlat l')) (hl : l'.length = n') :
    BSt w0 (W'.setCell ⟨x, 0, none⟩ (.slice a' n' c')) x a' n' c' l' a2 n2 c2 ts := by
  have hlt := h.lt
  obtain ⟨g2, g4⟩ := h.own hg (fun g e => (h.o1.lt g e).1)
  have k2 := h.o2.kept hg (types_apart (by decide) h.o2 h.o1)
  exact ⟨hlt, g2.set0 _, ownsRow_setCell_below ho (by show x < _; omega) _, ownsRow_setCell_below k2 (by show x < _; omega) _, grown_put g4 rfl _, hl, h.l2⟩
/-- other features -/
theorem BSt.setT {w0 W W' : World} {x : Nat} {a1 : Option Addr} {n1 c1 : Nat} {l : List Ident} {a2 : Option Addr} {n2 c2 : Nat} {ts : List ByteArray} (h : BSt w0 W x a1 n1 c1 l a2 n2 c2 ts) {a' : Option Addr} {n' c' : Nat} {ts' : List ByteArray}
    (hg : Below W.heap.size W W') (ho : W'.ownsRow w0.heap.size 9 1 (.slice a' n' c') n' (ts'.map Value.string)) (hl : ts'.length = n') :
    BSt w0 (W'.setCell ⟨x, 1, none⟩ (.slice a' n' c')) x a1 n1 c1 l a' n' c' ts' := by
  have hlt := h.lt
  have k := h.below hg
  exact ⟨hlt, k.box.set1 _, ownsRow_setCell_below k.o1 (by show x < _; omega) _, ownsRow_setCell_below ho (by show x < _; omega) _, grown_put k.gr rfl _, k.l1, hl⟩
/-- what lies below the box is kept -/
theorem BSt.kept {w : World} {W : World} {T : TypeId} {v : Value} {v' : Value} {a1 : Option Addr} {n1 c1 : Nat} {l : List Ident} {a2 : Option Addr} {n2 c2 : Nat} {ts : List ByteArray} (h : BSt (w.alloc (.cells #[v, v'] T)) W w.heap.size a1 n1 c1 l a2 n2 c2 ts) : Below w.heap.size w W :=
  below_step (below1 w _) h.gr (Nat.le_refl _)
theorem BSt.dis {w0 W : World} {x : Nat} {a1 : Option Addr} {n1 c1 : Nat} {l : List Ident} {a2 : Option Addr} {n2 c2 : Nat} {ts : List ByteArray} (h : BSt w0 W x a1 n1 c1 l a2 n2 c2 ts) (h1 : n1 ≤ 1048576) (h2 : n2 ≤ 1048576) : DisAt W a1 n1 c1 a2 n2 c2 ⟨l, ts⟩ :=
  ⟨ids_owned h.l1 h1 h.o1, sts_own2 h.l2 h2 h.o2⟩
theorem BSt.cap {w0 W : World} {x : Nat} {a1 : Option Addr} {n1 c1 : Nat} {l : List Ident} {a2 : Option Addr} {n2 c2 : Nat} {ts : List ByteArray} (h : BSt w0 W x a1 n1 c1 l a2 n2 c2 ts) : CapOk a1 n1 c1 ∧ CapOk a2 n2 c2 :=
  ⟨cap_owned h.o1, cap_owned h.o2⟩
end Go.Proofs.YtcaknhoaoodbfaaGreatDoor

/- What is written in some blocks alone. -/
namespace Go.Proofs.YtcaknhoaoodbfaaGreatDoor
open Go.ChangeShapes Go.WideShapes Go.ChangeAt Go.RowKit
set_option linter.unusedVariables false

/-- blocks for which P does not hold are as they were; new ones may have been made -/
structure Only (P : Nat → Prop) (w w' : World) : Prop where
  os : w'.os = w.os
  tape : w'.tape = w.tape
  output : w'.output = w.output
  size : w.heap.size ≤ w'.heap.size
  block : ∀ i, i < w.heap.size → ¬ P i → w'.heap[i]? = w.heap[i]?
theorem Only.refl {P : Nat → Prop} (w : World) : Only P w w := ⟨rfl, rfl, rfl, Nat.le_refl _, fun _ _ _ => rfl⟩
theorem Only.trans {P : Nat → Prop} {a b c : World} (h : Only P a b) (k : Only P b c) : Only P a c :=
  ⟨k.os.trans h.os, k.tape.trans h.tape, k.output.trans h.output, Nat.le_trans h.size k.size, fun i hi hp => (k.block i (Nat.lt_of_lt_of_le hi h.size) hp).trans (h.block i hi hp)⟩
theorem Only.mono {P Q : Nat → Prop} {a b : World} (h : Only P a b) (hpq : ∀ i, P i → Q i) : Only Q a b :=
  ⟨h.os, h.tape, h.output, h.size, fun i hi hq => h.block i hi fun hp => hq (hpq i hp)⟩
theorem Only.below {P : Nat → Prop} {a b : World} (h : Below a.heap.size a b) : Only P a b := ⟨h.os, h.tape, h.output, h.size, fun i hi _ => h.block i hi⟩
theorem Only.set {P : Nat → Prop} (w : World) (p : Addr) (v : Value) (h : P p.block) : Only P w (w.setCell p v) :=
  ⟨rfl, rfl, rfl, by simp, fun i hi hp => Below.heap_setCell w p v i fun e => hp (e ▸ h)⟩
theorem Only.cell {P : Nat → Prop} {a b : World} (h : Only P a b) {p : Addr} (hp : p.block < a.heap.size) (hn : ¬ P p.block) : b.cell? p = a.cell? p := by
  unfold World.cell?
  rw [h.block _ hp hn]
theorem Only.frozen {P : Nat → Prop} {a b : World} (h : Only P a b) {p : Addr} (hp : p.block < a.heap.size) (hn : ¬ P p.block) : b.frozen? p = a.frozen? p := by
  unfold World.frozen?
  rw [h.block _ hp hn]
/-- below a bound that all written blocks lie behind, nothing has changed -/
theorem Only.under {P : Nat → Prop} {B : Nat} {w0 a b : World} (h0 : Below B w0 a) (hB : B ≤ w0.heap.size) (h : Only P a b) (hP : ∀ i, P i → B ≤ i) : Below B w0 b :=
  ⟨h.os.trans h0.os, h.tape.trans h0.tape, h.output.trans h0.output, Nat.le_trans h0.size h.size, fun i hi => (h.block i (Nat.lt_of_lt_of_le hi (Nat.le_trans hB h0.size)) fun hp => by have := hP i hp; omega).trans (h0.block i hi)⟩
theorem Room.only {P : Nat → Prop} {w w' : World} {b m : Nat} (h : Room w b m) (ho : Only P w w') (hn : ¬ P b) : Room w' b m :=
  ⟨Nat.lt_of_lt_of_le h.1 ho.size, fun i hi => ⟨(h.2 i hi).1.imp fun v hv => (ho.cell (p := ⟨b, i, none⟩) h.1 hn).trans hv, (ho.frozen (p := ⟨b, i, none⟩) h.1 hn).trans (h.2 i hi).2⟩⟩
end Go.Proofs.YtcaknhoaoodbfaaGreatDoor
