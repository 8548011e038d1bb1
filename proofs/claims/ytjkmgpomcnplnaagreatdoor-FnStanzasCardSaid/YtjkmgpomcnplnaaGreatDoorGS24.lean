/- spec.l4End, l4Value. -/
import Derived.Test.YtjkmgpomcnplnaaGreatDoorGS0
import Derived.Test.YtjkmgpomcnplnaaGreatDoorGS23
import Derived.Test.YtjkmgpomcnplnaaGreatDoorGS6
import Derived.Test.YtjkmgpomcnplnaaGreatDoorGS1
import Derived.Test.YtjkmgpomcnplnaaGreatDoorGS2
import Derived.Test.YtjkmgpomcnplnaaGreatDoorGS15
import Derived.Test.YtjkmgpomcnplnaaGreatDoorGS13
import Derived.Test.YtjkmgpomcnplnaaGreatDoorGS5
import Derived.Test.YtjkmgpomcnplnaaGreatDoorGS12
import Derived.Test.YtjkmgpomcnplnaaGreatDoorGS4
namespace Go.Proofs.YtjkmgpomcnplnaaGreatDoor
open Go.ChangeShapes Go.WideShapes Go.ChangeAt Go.RowKit
set_option linter.unusedVariables false
def endF (l : List It) (d : Int) : Nat → Nat → Nat
  | 0, j => j
  | f + 1, j => if d < (l.getD j dIt).depth then endF l d f (j + 1) else j
def endL (l : List It) (a : Nat) : Nat := endF l (l.getD a dIt).depth (l.length - (a + 1)) (a + 1)
theorem endF_ge (l : List It) (d : Int) : ∀ f j, j ≤ endF l d f j ∧ endF l d f j ≤ j + f
  | 0, j => ⟨Nat.le_refl _, Nat.le_refl _⟩
  | f + 1, j => by
    unfold endF
    split
    · have := endF_ge l d f (j + 1); omega
    · omega
theorem endL_bounds {l : List It} {a : Nat} (h : a < l.length) : a + 1 ≤ endL l a ∧ endL l a ≤ l.length := by
  have := endF_ge l (l.getD a dIt).depth (l.length - (a + 1)) (a + 1)
  unfold endL
  omega
theorem endF_in (l : List It) (d : Int) : ∀ f j i, j ≤ i → i < endF l d f j → d < (l.getD i dIt).depth
  | 0, j, i, h1, h2 => by unfold endF at h2; omega
  | f + 1, j, i, h1, h2 => by
    unfold endF at h2
    split at h2
    · rename_i h
      rcases Nat.lt_or_ge j i with h3 | h3
      · exact endF_in l d f (j + 1) i h3 h2
      · obtain rfl : i = j := by omega
        exact h
    · omega
set_option maxRecDepth 100000 in
set_option maxHeartbeats 1600000 in
theorem specEnd_any (a : Option Addr) (n c p : Nat) (l : List It) (w : World) (hp : p < n) (h : ItsAt w a n c l) :
    Calls Tryz.prog 85 #[.slice a n c, .int .i64 p] w fun e w' => e = .returned (.int .i64 ((endL l p : Nat) : Int)) ∧ ∃ n, w' = w.drewN n := by
  have hm := h.max
  have HL := Lib.hid h.len
  obtain ⟨b, o, rfl, h4⟩ := h.row.resolve_left (by omega)
  have H4 := Lib.hid h4
  have e0 := (h4 p hp).c0
  obtain ⟨E, hE⟩ : ∃ E, endL l p = E := ⟨_, rfl⟩
  rw [hE]
  unfold endL at hE
  rw [h.len] at hE
  obtain ⟨d, hd⟩ : ∃ d, (l.getD p dIt).depth = d := ⟨_, rfl⟩
  rw [hd] at hE e0
  have HE := Lib.hid hE
  have q0 : (p : Int) < (n : Int) := by omega
  clear h h4 hE hd
  go_enter Tryz.func85, Tryz.ntmps85
  go_wp2
  go_loopw [5] (fun i wr => ∃ k : Nat, p + 1 ≤ k ∧ k ≤ n ∧ i = .int .i64 k ∧ endF l d (n - k) k = E ∧ ∃ nd, wr = w.drewN nd) (fun i _ => n - (intOf i).toNat)
  case atStart => exact ⟨p + 1, Nat.le_refl _, by omega, by go_num, HE.out, 0, rfl⟩
  case round =>
    obtain ⟨k, hk1, hk, rfl, hk2, hw⟩ := hrel
    have HW := Lib.hid hw
    have HK := Lib.hid hk2
    clear hw hk2
    by_cases hlt : k < n
    · have hbw : Below w.heap.size w wr := by obtain ⟨nd, rfl⟩ := HW.out; exact below_drewN (Below.refl _ _) nd
      have d0 := ((H4.out k hlt).below hbw).c0
      have e1 := (hbw.cell (p := ⟨b, o + p * 5, none⟩) (H4.out p hp).lt).trans e0
      clear hbw
      have hst : n - k = (n - (k + 1)) + 1 := by omega
      have HST := Lib.hid hst
      clear hst
      have q1 : decide ((k : Int) < (n : Int)) = true := by rw [decide_eq_true_iff]; omega
      have q2 : (k : Int) < (n : Int) := by omega
      obtain ⟨x, hx⟩ : ∃ x, (l.getD k dIt).depth = x := ⟨_, rfl⟩
      rw [hx] at d0
      by_cases hdx : d < x
      · have HK2 : Hid (endF l d (n - (k + 1)) (k + 1) = E) := Lib.hid (by
          have := HK.out; rw [HST.out] at this; unfold endF at this; rw [hx, if_pos hdx] at this; exact this)
        have q3 : decide (d < x) = true := by simpa using hdx
        clear hx
        go_wp2_with fail
        go_quiet (fail)
        go_wp2
        go_roundw
        case rel => exact ⟨k + 1, by omega, by omega, by go_num, HK2.out, drew_more HW.out _⟩
        case measure => simp [intOf]; omega
      · have HK2 : Hid (k = E) := Lib.hid (by
          have := HK.out; rw [HST.out] at this; unfold endF at this; rw [hx, if_neg hdx] at this; exact this)
        have q3 : decide (d < x) = false := by simpa using hdx
        clear hx
        go_wp2_with fail
        go_quiet (fail)
        go_wp2
        go_ret
        exact ⟨ret_n HK2.out, drew_more HW.out _⟩
    · obtain rfl : k = n := by omega
      have HK2 : Hid (k = E) := Lib.hid (by have := HK.out; rw [Nat.sub_self] at this; exact this)
      have q1 : decide ((k : Int) < (k : Int)) = false := by rw [decide_eq_false_iff_not]; omega
      go_wp2_with fail
      go_quiet (fail)
      go_wp2
      go_ret
      exact ⟨ret_n HK2.out, drew_more HW.out _⟩
def dp (l : List It) (i : Nat) : Int := (l.getD i dIt).depth
def lastAt (l : List It) (d : Int) : Nat → Option Nat
  | 0 => none
  | m + 1 => if dp l m = d then some m else lastAt l d m
theorem lastAt_is {l : List It} {d : Int} : ∀ {m j : Nat}, lastAt l d m = some j → j < m ∧ dp l j = d ∧ ∀ i, j < i → i < m → dp l i ≠ d
  | m + 1, j, h => by
    unfold lastAt at h
    by_cases e : dp l m = d
    · rw [if_pos e] at h
      cases h
      exact ⟨Nat.lt_succ_self _, e, fun i h1 h2 => by omega⟩
    · rw [if_neg e] at h
      obtain ⟨h1, h2, h3⟩ := lastAt_is h
      refine ⟨by omega, h2, fun i hi hm => ?_⟩
      rcases Nat.lt_or_ge i m with g | g
      · exact h3 i hi g
      · obtain rfl : i = m := by omega
        exact e
structure Rises (l : List It) : Prop where
  some : 1 ≤ l.length
  few : l.length ≤ 40
  first : dp l 0 = 0
  step : ∀ i, 1 ≤ i → i < l.length → 1 ≤ dp l i ∧ dp l i ≤ dp l (i - 1) + 1
  text : ∀ i, 1 ≤ i → i < l.length → (l.getD (i - 1) dIt).name.toList.isEmpty = true → dp l i ≤ dp l (i - 1)
  bd : ∀ i, i < l.length → 0 ≤ dp l i ∧ dp l i ≤ 6
  good : ∀ i, i < l.length → itemCode (l.getD i dIt) = 0
theorem lastAt_ex {l : List It} (h : Rises l) : ∀ (m : Nat), m < l.length → ∀ d : Int, 0 ≤ d → d ≤ dp l m → ∃ j, lastAt l d (m + 1) = some j
  | 0, hm, d, h0, h1 => by
    have hf := h.first
    have h1' : d ≤ dp l 0 := h1
    have e : dp l 0 = d := by omega
    exact ⟨0, by unfold lastAt; exact if_pos e⟩
  | m + 1, hm, d, h0, h1 => by
    by_cases e : dp l (m + 1) = d
    · exact ⟨m + 1, by unfold lastAt; rw [if_pos e]⟩
    · have hs := (h.step (m + 1) (by omega) hm).2
      rw [Nat.add_sub_cancel] at hs
      obtain ⟨j, hj⟩ := lastAt_ex h m (by omega) d h0 (by omega)
      exact ⟨j, by unfold lastAt; rw [if_neg e]; exact hj⟩
def parOf (l : List It) (k : Nat) : Option Nat := lastAt l (dp l k - 1) k
theorem par_ex {l : List It} (h : Rises l) {k : Nat} (h1 : 1 ≤ k) (hk : k < l.length) : ∃ j, parOf l k = some j ∧ j < k ∧ dp l j = dp l k - 1 ∧ ∀ i, j < i → i < k → dp l i ≠ dp l k - 1 := by
  obtain ⟨m, rfl⟩ : ∃ m, k = m + 1 := ⟨k - 1, by omega⟩
  have hs := h.step (m + 1) h1 hk
  rw [Nat.add_sub_cancel] at hs
  obtain ⟨j, hj⟩ := lastAt_ex h m (by omega) (dp l (m + 1) - 1) (by omega) (by omega)
  exact ⟨j, hj, lastAt_is hj⟩
def kidB (l : List It) (j k : Nat) : Bool := decide (0 < dp l k) && decide (parOf l k = some j)
def kidsUp (l : List It) (m j : Nat) : List Nat := (List.range m).filter (kidB l j)
theorem kidsUp_succ (l : List It) (m j : Nat) : kidsUp l (m + 1) j = kidsUp l m j ++ (if kidB l j m = true then [m] else []) := by
  unfold kidsUp
  rw [List.range_succ, List.filter_append]
  cases h : kidB l j m <;> simp [h]
theorem kidsUp_lt {l : List It} {m j k : Nat} (h : k ∈ kidsUp l m j) : k < m := by
  unfold kidsUp at h
  rw [List.mem_filter, List.mem_range] at h
  exact h.1
theorem kidsUp_len (l : List It) (m j : Nat) : (kidsUp l m j).length ≤ m := by
  unfold kidsUp
  have := List.length_filter_le (kidB l j) (List.range m)
  rw [List.length_range] at this
  exact this
theorem kidB_root {l : List It} {m : Nat} (h : dp l m = 0) (j : Nat) : kidB l j m = false := by
  unfold kidB
  rw [decide_eq_false (by omega)]
  rfl
theorem kidB_par {l : List It} {m p : Nat} (h0 : 0 < dp l m) (hp : parOf l m = some p) (j : Nat) : kidB l j m = decide (j = p) := by
  unfold kidB
  rw [decide_eq_true h0, hp]
  by_cases e : j = p
  · rw [e]; simp
  · rw [decide_eq_false e, decide_eq_false (fun h => e (by simpa using h.symm))]
    rfl
theorem rises_of {l : List It} (h : treeCode l = 0) : Rises l := by
  unfold treeCode at h
  split at h
  · omega
  · rename_i h1
    have hgood : ∀ i, i < l.length → itemCode (l.getD i dIt) = 0 := by
      intro i hi
      cases hf : l.find? (fun x => itemCode x != 0) with
      | some y =>
        rw [hf] at h
        have := List.find?_some hf
        rw [bne_iff_ne] at this
        exact absurd h this
      | none =>
        rw [List.find?_eq_none] at hf
        have hm := hf (l.getD i dIt) (by rw [List.getD_eq_getElem?_getD, List.getElem?_eq_getElem hi]; exact List.getElem_mem hi)
        simpa using hm
    rw [find_no l dIt _ fun j hj => by simp only [hgood j hj]; decide] at h
    have hs : stands l = true := by
      cases e : stands l
      · rw [e] at h; simp at h
      · rfl
    unfold stands at hs
    simp only [Bool.and_eq_true, List.all_eq_true, decide_eq_true_eq] at hs
    obtain ⟨⟨hd, _⟩, hall⟩ := hs
    have hst : ∀ i, 1 ≤ i → i < l.length → mayStand (l.getD (i - 1) dIt) (l.getD i dIt) = true := fun i hi hl => by
      have := hall i (List.mem_range.2 hl)
      rw [Bool.or_eq_true, beq_iff_eq] at this
      rcases this with g | g
      · omega
      · exact g
    have key : ∀ i, 1 ≤ i → i < l.length → dp l i ≠ 0 ∧ dp l i ≤ dp l (i - 1) + 1 ∧ ((l.getD (i - 1) dIt).name.toList.isEmpty = true → dp l i ≤ dp l (i - 1)) := fun i hi hl => by
      have := hst i hi hl
      unfold mayStand standB at this
      rw [Bool.not_eq_true', Bool.or_eq_false_iff, Bool.or_eq_false_iff, Bool.or_eq_false_iff] at this
      obtain ⟨⟨⟨g1, g2⟩, g3⟩, _⟩ := this
      rw [beq_eq_false_iff_ne] at g1
      rw [decide_eq_false_iff_not] at g2
      refine ⟨g1, by unfold dp; omega, fun e => ?_⟩
      rw [e, Bool.and_true, decide_eq_false_iff_not] at g3
      unfold dp
      omega
    have hb : ∀ i, i < l.length → 0 ≤ dp l i ∧ dp l i ≤ 6 := fun i hi => item_depth (hgood i hi)
    exact ⟨by omega, by omega, hd, fun i hi hl => ⟨by have := (key i hi hl).1; have := (hb i hl).1; omega, (key i hi hl).2.1⟩, fun i hi hl => (key i hi hl).2.2, hb, hgood⟩
set_option linter.unusedSimpArgs false
theorem end_one {l : List It} {i : Nat} (h1 : i + 1 < l.length) (hd : dp l (i + 1) = dp l i + 1) (h2 : i + 2 = l.length ∨ dp l (i + 2) ≤ dp l i) : endL l i = i + 2 := by
  unfold endL
  unfold dp at hd h2
  obtain ⟨f, hf⟩ : ∃ f, l.length - (i + 1) = f + 1 := ⟨l.length - (i + 1) - 1, by omega⟩
  rw [hf]
  unfold endF
  rw [if_pos (by omega)]
  cases f with
  | zero => rfl
  | succ f =>
    unfold endF
    rw [show i + 1 + 1 = i + 2 from rfl, if_neg (by omega)]
def kidsTo (l : List It) (d : Int) (a e : Nat) : List Int := ((List.range' (a + 1) (e - (a + 1))).filter fun i => (l.getD i dIt).depth == d + 1).map fun i => ((i : Nat) : Int)
def kidsL (l : List It) (a : Nat) : List Int := kidsTo l (l.getD a dIt).depth a (endL l a)
theorem kidsTo_start (l : List It) (d : Int) (a : Nat) : kidsTo l d a (a + 1) = [] := by simp [kidsTo]
theorem kidsTo_step (l : List It) (d : Int) {a k : Nat} (h : a + 1 ≤ k) : kidsTo l d a (k + 1) = kidsTo l d a k ++ (if (l.getD k dIt).depth == d + 1 then [(k : Int)] else []) := by
  unfold kidsTo
  rw [show k + 1 - (a + 1) = (k - (a + 1)) + 1 by omega, List.range'_1_concat, List.filter_append, List.map_append, show a + 1 + (k - (a + 1)) = k by omega]
  congr 1
  simp only [List.filter_cons, List.filter_nil]
  split <;> simp
theorem kidsTo_length (l : List It) (d : Int) (a e : Nat) : (kidsTo l d a e).length ≤ e - (a + 1) := by
  unfold kidsTo
  rw [List.length_map]
  have := List.length_filter_le (fun i => (l.getD i dIt).depth == d + 1) (List.range' (a + 1) (e - (a + 1)))
  rw [List.length_range'] at this
  exact this
theorem i64InfoK : (Tryz.prog.info? 2).map (fun i => (i.zero, i.size, i.bytes)) = some (some (.int .i64 0), 1, 8) := by kernel_rfl
set_option maxRecDepth 100000 in
set_option maxHeartbeats 3200000 in
theorem specKids_any (a : Option Addr) (n c p : Nat) (l : List It) (w : World) (hn : n ≤ 1048576) (hd : ∀ i, i < n → -1000 ≤ (l.getD i dIt).depth ∧ (l.getD i dIt).depth ≤ 1000) (hp : p < n) (h : ItsAt w a n c l) :
    Calls Tryz.prog 84 #[.slice a n c, .int .i64 p] w (OwnsRes w 2 .i64 (kidsL l p)) := by
  obtain ⟨i0, hi, hz0, hz1, hz2⟩ := info_parts i64InfoK
  obtain ⟨b, o, rfl, h4⟩ := h.row.resolve_left (by omega)
  have H4 := Lib.hid h4
  have HD := Lib.hid hd
  have H := Lib.hid h
  have hbe := endL_bounds (l := l) (a := p) (by rw [h.len]; exact hp)
  rw [h.len] at hbe
  have hlt := (h4 p hp).lt
  obtain ⟨dp, hdp⟩ : ∃ dp, (l.getD p dIt).depth = dp := ⟨_, rfl⟩
  have hdp2 := hd p hp
  rw [hdp] at hdp2
  have e0 := (h4 p hp).c0
  rw [hdp] at e0
  obtain ⟨L, hL⟩ : ∃ L, kidsL l p = L := ⟨_, rfl⟩
  rw [hL]
  unfold kidsL at hL
  rw [hdp] at hL
  have KE := Lib.hid (fun W (hb : Below w.heap.size w W) => specEnd_any (some ⟨b, o, none⟩) n c p l W hp (h.below hb))
  obtain ⟨E, hE⟩ : ∃ E, endL l p = E := ⟨_, rfl⟩
  rw [hE] at hbe hL KE
  have HLL := Lib.hid hL
  have q0 : (p : Int) < (n : Int) := by omega
  obtain ⟨hbe1, hbe2⟩ := hbe
  clear h h4 hd hL hE hdp
  go_enter Tryz.func84, Tryz.ntmps84
  go_wp2
  go_loopw [5, 6] (fun v i wr => ∃ (k : Nat) (av : Option Addr) (nv cv : Nat), p + 1 ≤ k ∧ k ≤ E ∧ i = .int .i64 k ∧ v = .slice av nv cv ∧ wr.ownsRow w.heap.size 2 1 (.slice av nv cv) nv ((kidsTo l dp p k).map (Value.int .i64)) ∧ Below w.heap.size w wr) (fun _ i _ => E - (intOf i).toNat)
  case atStart =>
    refine ⟨p + 1, some ⟨w.heap.size, 0, none⟩, 0, 0, Nat.le_refl _, hbe1, by go_num, rfl, ?_, below1 _ _⟩
    rw [kidsTo_start]
    exact lit_owns w _ .i64 [] 0 rfl (by decide)
  case round =>
    obtain ⟨k, av, nv, cv, hk1, hk2, rfl, rfl, ho, hb⟩ := hrel
    have HO := Lib.hid ho
    have HB := Lib.hid hb
    have hnv : nv ≤ 1048576 := by
      have h1 := owns_length ho
      have h2 := kidsTo_length l dp p k
      omega
    clear ho hb
    by_cases hlt2 : k < E
    · go_wp2_with fail
      refine (KE.out _ HB.out).mono ?_
      rintro e w1 ⟨rfl, nd, rfl⟩
      have HB1 := Lib.hid (below_drewN HB.out nd)
      have d0 := ((H4.out k (by omega)).below HB.out).c0
      have e1 := (HB.out.cell (p := ⟨b, o + p * 5, none⟩) (by exact hlt)).trans e0
      have HOd := Lib.hid (fun m => owns_below HO.out (below_drewN (Below.refl _ wr) m))
      have HBd := Lib.hid (fun m => below_drewN HB.out m)
      have hdk := HD.out k (by omega)
      have q1 : (k : Int) < (n : Int) := by omega
      have HST := Lib.hid (kidsTo_step l dp hk1)
      have hw1 : IntKind.i64.wrap (dp + 1) = dp + 1 := IntWalk.i64_in _ (by omega)
      generalize (l.getD k dIt).depth = x at d0 HST hdk
      cases hq : x == dp + 1
      · have HST2 : Hid (kidsTo l dp p (k + 1) = kidsTo l dp p k) := Lib.hid (by rw [HST.out, hq]; simp)
        clear HST
        go_wp2_with fail
        go_quiet (fail)
        go_wp2
        go_roundw
        case rel => exact ⟨k + 1, av, nv, cv, by omega, by omega, by go_num, rfl, by rw [HST2.out]; exact HOd.out _, HBd.out _⟩
        case measure => simp [intOf]; omega
      · have HST2 : Hid (kidsTo l dp p (k + 1) = kidsTo l dp p k ++ [(k : Int)]) := Lib.hid (by rw [HST.out, hq]; simp)
        clear HST
        go_wp2_with fail
        go_quiet (fail)
        go_wp2_with (at_builtin; refine wpList_append_own _ rfl _ _ 108 rfl w.heap.size 2 i0 (.int .i64 0) 1 8 Tryz.underlying108 hi hz0 hz1 hz2 rfl (by decide) _ _ _ rfl ((HOd.out _).alloc _) ⟨wr.heap.size, 0, none⟩ 1 1 [.int .i64 (k : Int)] rfl rfl ?c1 ?c2 ?c3 ?c4 ?c5 ?_)
        case c1 =>
          intro j v hj
          match j, hj with
          | 0, hj =>
            simp at hj
            subst hj
            rw [show (⟨wr.heap.size, 0, none⟩ : Addr) = ⟨(wr.drewN (nd + nq)).heap.size, 0, none⟩ from rfl, Addr.add_lit]
            generalize wr.drewN (nd + nq) = W
            simp
        case c2 => intro v hv; simp at hv; subst hv; rfl
        case c3 => unfold maxLen; omega
        case c4 => omega
        case c5 => have := HB.out.size; simp; omega
        intro v' w2 hown' hgrow _
        obtain ⟨a', c', rfl⟩ := owns_slice hown'
        have HB2 := Lib.hid (below_appended (HBd.out _) (HOd.out _) hgrow)
        have HO2 := Lib.hid hown'
        clear hown' hgrow
        go_wp2
        go_roundw
        case rel => exact ⟨k + 1, a', _, c', by omega, by omega, by go_num, rfl, by rw [HST2.out, List.map_append]; exact HO2.out, HB2.out⟩
        case measure => simp [intOf]; omega
    · obtain rfl : k = E := by omega
      go_wp2_with fail
      refine (KE.out _ HB.out).mono ?_
      rintro e w1 ⟨rfl, nd, rfl⟩
      go_wp2
      go_ret
      exact ⟨av, nv, cv, rfl, by rw [← HLL.out]; exact owns_below HO.out (below_drewN (Below.refl _ wr) nd), below_drewN HB.out nd⟩
def textF (l : List It) : Nat → Nat → ByteArray → Option ByteArray
  | 0, _, out => some out
  | f + 1, j, out => if (l.getD j dIt).name.toList.isEmpty = true then textF l f (j + 1) (out ++ (l.getD j dIt).text) else none
def textL (l : List It) (a : Nat) : Option ByteArray := textF l (endL l a - (a + 1)) (a + 1) ByteArray.empty
def txtT (v : Option ByteArray) : ByteArray := match v with | some t => t | none => ByteArray.empty
set_option maxRecDepth 100000 in
set_option maxHeartbeats 3200000 in
theorem specText_any (a : Option Addr) (n c p : Nat) (l : List It) (w : World) (hn : n ≤ 1048576) (hs : ∀ i, i < n → (l.getD i dIt).text.size ≤ 1048576) (hp : p < n) (h : ItsAt w a n c l) :
    Calls Tryz.prog 111 #[.slice a n c, .int .i64 p] w fun e w' => e = .returned (.tuple #[.string (txtT (textL l p)), .bool (textL l p).isSome]) ∧ ∃ n, w' = w.drewN n := by
  obtain ⟨b, o, rfl, h4⟩ := h.row.resolve_left (by omega)
  have H4 := Lib.hid h4
  have HS := Lib.hid hs
  have hbe := endL_bounds (l := l) (a := p) (by rw [h.len]; exact hp)
  rw [h.len] at hbe
  obtain ⟨V, hV⟩ : ∃ V, textL l p = V := ⟨_, rfl⟩
  rw [hV]
  unfold textL at hV
  have KE := Lib.hid (fun W (hb : Below w.heap.size w W) => specEnd_any (some ⟨b, o, none⟩) n c p l W hp (h.below hb))
  obtain ⟨E, hE⟩ : ∃ E, endL l p = E := ⟨_, rfl⟩
  rw [hE] at hbe hV KE
  have HVV := Lib.hid hV
  obtain ⟨hbe1, hbe2⟩ := hbe
  clear h h4 hs hV hE
  go_enter Tryz.func111, Tryz.ntmps111
  go_wp2
  go_loopw [6, 7] (fun v i wr => ∃ (k : Nat) (out : ByteArray), p + 1 ≤ k ∧ k ≤ E ∧ i = .int .i64 k ∧ v = .string out ∧ out.size ≤ k * 1048576 ∧ textF l (E - k) k out = V ∧ ∃ nd, wr = w.drewN nd) (fun _ i _ => E - (intOf i).toNat)
  case atStart => exact ⟨p + 1, ByteArray.empty, Nat.le_refl _, hbe1, by go_num, rfl, by simp, HVV.out, 0, rfl⟩
  case round =>
    obtain ⟨k, out, hk1, hk2, rfl, rfl, hsz, hf, hw⟩ := hrel
    have HF := Lib.hid hf
    have HW := Lib.hid hw
    have hbw : Below w.heap.size w wr := by obtain ⟨nd, rfl⟩ := hw; exact below_drewN (Below.refl _ _) nd
    have HBW := Lib.hid hbw
    clear hf hw hbw
    by_cases hlt2 : k < E
    · have hi := (H4.out k (by omega)).below HBW.out
      have d1 := hi.c1
      have d3 := hi.c3
      have hst : E - k = (E - (k + 1)) + 1 := by omega
      have HST := Lib.hid hst
      have hts := HS.out k (by omega)
      have HF2 : Hid ((if (l.getD k dIt).name.toList.isEmpty = true then textF l (E - (k + 1)) (k + 1) (out ++ (l.getD k dIt).text) else none) = V) := Lib.hid (by
        have := HF.out; rw [HST.out] at this; exact this)
      have q1 : (k : Int) < (n : Int) := by omega
      clear hi hst
      generalize l.getD k dIt = x at d1 d3 hts HF2
      obtain ⟨xd, xt, xs, xn, xa⟩ := x
      dsimp only at d1 d3 hts HF2
      cases hq : xn.toList.isEmpty
      · have HF3 : Hid (V = none) := Lib.hid (by have := HF2.out; rw [hq, if_neg (by decide)] at this; exact this.symm)
        clear HF2
        go_wp2_with fail
        refine (KE.out _ HBW.out).mono ?_
        rintro e w1 ⟨rfl, nd, rfl⟩
        go_wp2
        go_ret2
        exact ⟨by rw [HF3.out]; rfl, drew_more HW.out _⟩
      · have HF3 : Hid (textF l (E - (k + 1)) (k + 1) (out ++ xt) = V) := Lib.hid (by have := HF2.out; rw [hq, if_pos rfl] at this; exact this)
        clear HF2
        go_wp2_with fail
        refine (KE.out _ HBW.out).mono ?_
        rintro e w1 ⟨rfl, nd, rfl⟩
        go_wp2
        go_roundw
        case rel => exact ⟨k + 1, _, by omega, by omega, by go_num, rfl, by rw [ByteArray.size_append]; omega, HF3.out, drew_more HW.out _⟩
        case measure => simp [intOf]; omega
    · obtain rfl : k = E := by omega
      have HF3 : Hid (V = some out) := Lib.hid (by have := HF.out; rw [Nat.sub_self] at this; exact this.symm)
      go_wp2_with fail
      refine (KE.out _ HBW.out).mono ?_
      rintro e w1 ⟨rfl, nd, rfl⟩
      go_wp2
      go_ret2
      exact ⟨by rw [HF3.out]; rfl, drew_more HW.out _⟩
theorem endF_out (l : List It) (d : Int) : ∀ f j, endF l d f j = j + f ∨ ¬ d < (l.getD (endF l d f j) dIt).depth
  | 0, j => .inl rfl
  | f + 1, j => by
    by_cases h : d < (l.getD j dIt).depth
    · have e : endF l d (f + 1) j = endF l d f (j + 1) := by
        rw [endF, if_pos h]
      rw [e]
      rcases endF_out l d f (j + 1) with h1 | h1
      · left; omega
      · exact .inr h1
    · have e : endF l d (f + 1) j = j := by
        rw [endF, if_neg h]
      rw [e]
      exact .inr h
theorem endL_out {l : List It} {a : Nat} (h : a < l.length) : endL l a = l.length ∨ dp l (endL l a) ≤ dp l a := by
  rcases endF_out l (l.getD a dIt).depth (l.length - (a + 1)) (a + 1) with h1 | h1
  · left
    unfold endL
    omega
  · right
    unfold dp endL
    omega
theorem endL_in {l : List It} {a i : Nat} (h1 : a < i) (h2 : i < endL l a) : dp l a < dp l i := endF_in l _ _ _ i h1 h2
theorem lastAt_of {l : List It} {d : Int} {a : Nat} (hd : dp l a = d) : ∀ {m : Nat}, a < m → (∀ i, a < i → i < m → dp l i ≠ d) → lastAt l d m = some a
  | m + 1, hm, hn => by
    unfold lastAt
    by_cases e : a = m
    · subst e
      rw [if_pos hd]
    · rw [if_neg (hn m (by omega) (by omega))]
      exact lastAt_of hd (by omega) fun i h1 h2 => hn i h1 (by omega)
theorem low_till {l : List It} (h : Rises l) {E k : Nat} {d : Int} (hk : k < l.length) (hE : dp l E < d) (hne : ∀ i, E < i → i < k → dp l i ≠ d) : ∀ m, E + m < k → dp l (E + m) < d
  | 0, _ => hE
  | m + 1, hm => by
    have h1 := low_till h hk hE hne m (by omega)
    have h2 := (h.step (E + (m + 1)) (by omega) (by omega)).2
    rw [show E + (m + 1) - 1 = E + m from by omega] at h2
    have h3 := hne (E + (m + 1)) (by omega) hm
    omega
theorem kid_iff {l : List It} (h : Rises l) {a k : Nat} (ha : a < l.length) (hk : k < l.length) : kidB l a k = true ↔ a < k ∧ k < endL l a ∧ dp l k = dp l a + 1 := by
  have hb := endL_bounds ha
  unfold kidB
  rw [Bool.and_eq_true, decide_eq_true_iff, decide_eq_true_iff]
  constructor
  · rintro ⟨h0, hp⟩
    obtain ⟨h1, h2, h3⟩ := lastAt_is hp
    refine ⟨h1, ?_, by omega⟩
    refine Nat.lt_of_not_le fun hle => ?_
    rcases endL_out ha with h4 | h4
    · omega
    · rcases Nat.lt_or_ge (endL l a) k with g | g
      · have h5 := h3 (endL l a) (by omega) g
        have h6 : dp l (endL l a) < dp l a := by omega
        have h7 := low_till h hk h6 (fun i g1 g2 => by have := h3 i (by omega) g2; omega) (k - 1 - endL l a) (by omega)
        rw [show endL l a + (k - 1 - endL l a) = k - 1 from by omega] at h7
        have h8 := (h.step k (by omega) hk).2
        omega
      · have e : endL l a = k := by omega
        rw [e] at h4
        omega
  · rintro ⟨h1, h2, h3⟩
    refine ⟨by have := (h.bd a ha).1; omega, ?_⟩
    unfold parOf
    exact lastAt_of (by omega) h1 fun i g1 g2 => by have := endL_in g1 (show i < endL l a by omega); omega
theorem kids_same {l : List It} (h : Rises l) {a : Nat} (ha : a < l.length) : (kidsUp l l.length a).map (fun j => ((j : Nat) : Int)) = kidsL l a := by
  have hb := endL_bounds ha
  unfold kidsL kidsTo kidsUp
  congr 1
  have e : List.range l.length = List.range' 0 (a + 1) ++ (List.range' (a + 1) (endL l a - (a + 1)) ++ List.range' (endL l a) (l.length - endL l a)) := by
    have e1 := List.range'_append (s := a + 1) (m := endL l a - (a + 1)) (n := l.length - endL l a) (step := 1)
    have e2 := List.range'_append (s := 0) (m := a + 1) (n := l.length - (a + 1)) (step := 1)
    rw [show a + 1 + 1 * (endL l a - (a + 1)) = endL l a from by omega, show endL l a - (a + 1) + (l.length - endL l a) = l.length - (a + 1) from by omega] at e1
    rw [show 0 + 1 * (a + 1) = a + 1 from by omega, show a + 1 + (l.length - (a + 1)) = l.length from by omega] at e2
    rw [e1, e2, List.range_eq_range']
  rw [e, List.filter_append, List.filter_append]
  have f1 : (List.range' 0 (a + 1)).filter (kidB l a) = [] := by
    rw [List.filter_eq_nil_iff]
    intro k hk
    rw [List.mem_range'_1] at hk
    intro hkb
    have := (kid_iff h ha (by omega)).1 hkb
    omega
  have f3 : (List.range' (endL l a) (l.length - endL l a)).filter (kidB l a) = [] := by
    rw [List.filter_eq_nil_iff]
    intro k hk
    rw [List.mem_range'_1] at hk
    intro hkb
    have := (kid_iff h ha (by omega)).1 hkb
    omega
  rw [f1, f3, List.nil_append, List.append_nil]
  apply List.filter_congr
  intro k hk
  rw [List.mem_range'_1] at hk
  have hi := kid_iff h ha (k := k) (by omega)
  have hd : ((l.getD k dIt).depth == (l.getD a dIt).depth + 1) = decide (dp l k = dp l a + 1) := by
    unfold dp
    rw [Bool.eq_iff_iff, beq_iff_eq, decide_eq_true_iff]
  rw [hd, Bool.eq_iff_iff, hi, decide_eq_true_iff]
  constructor
  · rintro ⟨_, _, h3⟩
    exact h3
  · intro h3
    exact ⟨by omega, by omega, h3⟩
theorem kids_at {l : List It} {a n x : Nat} (hx : x < n) (h : kidB l a x = true) : (kidsUp l x a).length < (kidsUp l n a).length ∧ (kidsUp l n a).getD (kidsUp l x a).length 0 = x := by
  have e : List.range n = List.range x ++ (x :: List.range' (x + 1) (n - x - 1)) := by
    have e1 := List.range'_append (s := 0) (m := x) (n := n - x) (step := 1)
    rw [show 0 + 1 * x = x from by omega, show x + (n - x) = n from by omega] at e1
    have e2 : List.range' x (n - x) = x :: List.range' (x + 1) (n - x - 1) := by
      conv => lhs; rw [show n - x = (n - x - 1) + 1 from by omega]
      rw [List.range'_succ]
    rw [List.range_eq_range', List.range_eq_range', ← e1, e2]
  have e3 : kidsUp l n a = kidsUp l x a ++ (x :: (List.range' (x + 1) (n - x - 1)).filter (kidB l a)) := by
    unfold kidsUp
    rw [e, List.filter_append, List.filter_cons, if_pos h]
  rw [e3]
  refine ⟨by simp, ?_⟩
  rw [List.getD_eq_getElem?_getD, List.getElem?_append_right (Nat.le_refl _), Nat.sub_self]
  rfl
theorem kids_next {l : List It} {a x : Nat} (h : kidB l a x = true) : ∀ (m : Nat), (∀ i, x < i → i < x + 1 + m → kidB l a i = false) → (kidsUp l (x + 1 + m) a).length = (kidsUp l x a).length + 1
  | 0, _ => by rw [Nat.add_zero, kidsUp_succ, if_pos h]; simp
  | m + 1, hn => by
    have h1 := kids_next h m (fun i g1 g2 => hn i g1 (by omega))
    rw [show x + 1 + (m + 1) = (x + 1 + m) + 1 from by omega, kidsUp_succ, if_neg (by rw [hn (x + 1 + m) (by omega) (by omega)]; simp), List.append_nil]
    exact h1
theorem kids_stop {l : List It} {a x : Nat} : ∀ (m : Nat), (∀ i, x ≤ i → i < x + m → kidB l a i = false) → kidsUp l (x + m) a = kidsUp l x a
  | 0, _ => rfl
  | m + 1, hn => by
    rw [show x + (m + 1) = (x + m) + 1 from by omega, kidsUp_succ, if_neg (by rw [hn (x + m) (by omega) (by omega)]; simp), List.append_nil]
    exact kids_stop m (fun i g1 g2 => hn i g1 (by omega))
theorem kids_zero {l : List It} (h : Rises l) {a : Nat} (ha : a < l.length) : kidsUp l (a + 1) a = [] := by
  have hn : ∀ i, 0 ≤ i → i < 0 + (a + 1) → kidB l a i = false := fun i _ hi => by
    rw [← Bool.not_eq_true]
    intro hk
    have := (kid_iff h ha (k := i) (by omega)).1 hk
    omega
  have := kids_stop (a + 1) hn
  rw [Nat.zero_add] at this
  rw [this]
  rfl
theorem kids_all {l : List It} (h : Rises l) {a : Nat} (ha : a < l.length) : kidsUp l l.length a = kidsUp l (endL l a) a := by
  have hb := endL_bounds ha
  have := kids_stop (l := l) (a := a) (x := endL l a) (l.length - endL l a) (fun i g1 g2 => by
    rw [← Bool.not_eq_true]
    intro hk
    have := (kid_iff h ha (k := i) (by omega)).1 hk
    omega)
  rwa [show endL l a + (l.length - endL l a) = l.length from by omega] at this
theorem kid_pos0 {l : List It} (h : Rises l) {a : Nat} (ha : a < l.length) : a + 1 = endL l a ∨ kidB l a (a + 1) = true := by
  have hb := endL_bounds ha
  by_cases e : a + 1 = endL l a
  · exact .inl e
  · right
    have h1 := endL_in (l := l) (a := a) (i := a + 1) (by omega) (by omega)
    have h2 := (h.step (a + 1) (by omega) (by omega)).2
    rw [Nat.add_sub_cancel] at h2
    exact (kid_iff h ha (by omega)).2 ⟨by omega, by omega, by omega⟩
theorem kid_pos1 {l : List It} (h : Rises l) {a x : Nat} (ha : a < l.length) (hx : x < l.length) (hk : kidB l a x = true) :
    x + 1 ≤ endL l x ∧ endL l x ≤ endL l a ∧ (endL l x = endL l a ∨ kidB l a (endL l x) = true) ∧ (∀ i, x < i → i < endL l x → kidB l a i = false) ∧ dp l x = dp l a + 1 ∧ a < x := by
  have hb := endL_bounds ha
  have hbx := endL_bounds hx
  obtain ⟨h1, h2, h3⟩ := (kid_iff h ha hx).1 hk
  have hle : endL l x ≤ endL l a := by
    refine Nat.le_of_not_lt fun hlt => ?_
    have h4 := endL_in (l := l) (a := x) (i := endL l a) h2 hlt
    rcases endL_out ha with h5 | h5
    · omega
    · omega
  refine ⟨hbx.1, hle, ?_, fun i g1 g2 => ?_, h3, h1⟩
  · by_cases e : endL l x = endL l a
    · exact .inl e
    · right
      have h4 := endL_in (l := l) (a := a) (i := endL l x) (by omega) (by omega)
      rcases endL_out hx with h5 | h5
      · omega
      · exact (kid_iff h ha (by omega)).2 ⟨by omega, by omega, by omega⟩
  · rw [← Bool.not_eq_true]
    intro hk2
    have h4 := endL_in (l := l) (a := x) (i := i) g1 g2
    have h5 := (kid_iff h ha (k := i) (by omega)).1 hk2
    omega
theorem kids_count {l : List It} (h : Rises l) {a x : Nat} (ha : a < l.length) (hx : x < l.length) (hk : kidB l a x = true) : (kidsUp l (endL l x) a).length = (kidsUp l x a).length + 1 := by
  obtain ⟨h1, _, _, h4, _, _⟩ := kid_pos1 h ha hx hk
  have := kids_next hk (endL l x - (x + 1)) (fun i g1 g2 => h4 i g1 (by omega))
  rwa [show x + 1 + (endL l x - (x + 1)) = endL l x from by omega] at this
def LaidSt (l : List It) (k j x : Nat) : Prop := j = (kidsUp l x k).length ∧ k + 1 ≤ x ∧ x ≤ endL l k ∧ (x = endL l k ∨ kidB l k x = true)
theorem laid_start {l : List It} (h : Rises l) {k : Nat} (hk : k < l.length) : LaidSt l k 0 (k + 1) :=
  ⟨by rw [kids_zero h hk]; rfl, Nat.le_refl _, (endL_bounds hk).1, kid_pos0 h hk⟩
theorem laid_more {l : List It} (h : Rises l) {k j x : Nat} (hk : k < l.length) (hs : LaidSt l k j x) (hj : j < (kidsUp l l.length k).length) :
    x < endL l k ∧ x < l.length ∧ kidB l k x = true ∧ (kidsUp l l.length k).getD j 0 = x ∧ LaidSt l k (j + 1) (endL l x) ∧ dp l x = dp l k + 1 ∧ x ≤ endL l x ∧ endL l x ≤ endL l k ∧ k + 1 ≤ x := by
  obtain ⟨h1, h2, h3, h4⟩ := hs
  have hb := endL_bounds hk
  have hne : x ≠ endL l k := fun e => by
    rw [e, ← kids_all h hk] at h1
    omega
  have hx : x < l.length := by omega
  have hkb := h4.resolve_left hne
  obtain ⟨g1, g2, g3, g4, g5, g6⟩ := kid_pos1 h hk hx hkb
  refine ⟨by omega, hx, hkb, ?_, ⟨?_, by omega, g2, g3⟩, g5, by omega, g2, h2⟩
  · rw [h1]
    exact (kids_at hx hkb).2
  · rw [kids_count h hk hx hkb, h1]
theorem laid_last {l : List It} (h : Rises l) {k j x : Nat} (hk : k < l.length) (hs : LaidSt l k j x) (hj : ¬ j < (kidsUp l l.length k).length) : x = endL l k := by
  obtain ⟨h1, h2, h3, h4⟩ := hs
  have hb := endL_bounds hk
  by_cases e : x = endL l k
  · exact e
  · have := (kids_at (n := l.length) (by omega) (h4.resolve_left e)).1
    omega
theorem movedTo_app (l : List It) {f k : Nat} (h : f ≤ k) (by_ : Int) : ∀ m, movedTo l f k by_ ++ movedTo l k (k + m) by_ = movedTo l f (k + m) by_
  | 0 => by
    have e : movedTo l k (k + 0) by_ = [] := by simp [movedTo]
    rw [e, List.append_nil, Nat.add_zero]
  | m + 1 => by
    rw [show k + (m + 1) = (k + m) + 1 from by omega, movedTo_step l (by omega), movedTo_step l (by omega), ← List.append_assoc, movedTo_app l h by_ m]
theorem movedTo_join (l : List It) {f k e : Nat} (h : f ≤ k) (h2 : k ≤ e) (by_ : Int) : movedTo l f k by_ ++ movedTo l k e by_ = movedTo l f e by_ := by
  have := movedTo_app l h by_ (e - k)
  rwa [show k + (e - k) = e from by omega] at this
def hasIx (ts : List ByteArray) (t : ByteArray) : Int := if ts.findIdx (fun x => x.toList == t.toList) < ts.length then (ts.findIdx (fun x => x.toList == t.toList) : Int) else -1
theorem hasIx_bd (ts : List ByteArray) (t : ByteArray) : -1 ≤ hasIx ts t ∧ hasIx ts t < ts.length := by
  unfold hasIx
  split <;> omega
def addT (ts : List ByteArray) (t : ByteArray) : List ByteArray := if 0 ≤ hasIx ts t then ts else ts ++ [t]
set_option maxHeartbeats 1600000 in
theorem l6Has_any (v : Value) (ts : List ByteArray) (t : ByteArray) (w : World) (h : RowS w v ts) :
    Calls Tryz.prog 86 #[v, .string t] w fun e w' => e = .returned (.int .i64 (hasIx ts t)) ∧ ∃ n, w' = w.drewN n := by
  have hle := List.findIdx_le_length (xs := ts) (p := fun x => x.toList == t.toList)
  have hat : ∀ h : ts.findIdx (fun x => x.toList == t.toList) < ts.length, ((ts.getD (ts.findIdx (fun x => x.toList == t.toList)) ByteArray.empty).toList == t.toList) = true := fun h => by
    have := List.findIdx_getElem (xs := ts) (p := fun x => x.toList == t.toList) (w := h)
    rw [List.getD_eq_getElem?_getD, List.getElem?_eq_getElem h]
    exact this
  have hlt : ∀ j, j < ts.findIdx (fun x => x.toList == t.toList) → j < ts.length → ((ts.getD j ByteArray.empty).toList == t.toList) = false := fun j hj hl => by
    have := List.not_of_lt_findIdx (xs := ts) (p := fun x => x.toList == t.toList) hj
    rw [List.getD_eq_getElem?_getD, List.getElem?_eq_getElem hl]
    simpa using this
  unfold hasIx
  generalize hm : ts.findIdx (fun x => x.toList == t.toList) = m at hle hat hlt ⊢
  generalize hr : (if m < ts.length then (m : Int) else -1) = r
  have HR := Lib.hid hr
  have HAT := Lib.hid hat
  have HLT := Lib.hid hlt
  clear hr hat hlt hm
  rcases h with ⟨rfl, rfl⟩ | ⟨b, o, cap, rfl, hc, hmx, hb, hx⟩
  · have hr : r = -1 := by rw [← HR.out]; simp
    subst hr
    go_enter Tryz.func86, Tryz.ntmps86
    go_wp2
    go_loop [8] (fun i => i = .int .i64 0) (fun _ => 0)
    case atStart => rfl
    case round =>
      subst hrel
      go_wp2
      go_ret
      exact ⟨rfl, 0, rfl⟩
  · have HX := Lib.hid hx
    unfold maxLen at hmx
    clear hx
    go_enter Tryz.func86, Tryz.ntmps86
    go_wp2
    go_loopw [8] (fun i wr => ∃ k : Nat, k ≤ m ∧ i = .int .i64 k ∧ ∃ n, wr = w.drewN n) (fun i _ => ts.length - (intOf i).toNat)
    case atStart => exact ⟨0, Nat.zero_le _, rfl, 0, rfl⟩
    case round =>
      obtain ⟨k, hk, rfl, nd, rfl⟩ := hrel
      by_cases hkl : k < ts.length
      · have d1 := HX.out k hkl
        have k1 : (k : Int) < (ts.length : Int) := by omega
        by_cases hkm : k < m
        · have he := HLT.out k hkm hkl
          generalize ts.getD k ByteArray.empty = x at d1 he
          go_wp2
          go_roundw
          case rel => exact ⟨k + 1, by omega, by go_num, _, rfl⟩
          case measure => simp [intOf]; omega
        · obtain rfl : k = m := by omega
          have he := HAT.out hkl
          have hr : r = (k : Int) := by rw [← HR.out, if_pos hkl]
          subst hr
          generalize ts.getD k ByteArray.empty = x at d1 he
          go_wp2
          go_ret
          exact ⟨rfl, _, rfl⟩
      · have hr : r = -1 := by rw [← HR.out, if_neg (by omega)]
        subst hr
        obtain rfl : k = ts.length := by omega
        go_wp2
        go_ret
        exact ⟨rfl, _, rfl⟩
def dPr : Pr := ⟨0, ByteArray.empty, ByteArray.empty, 0, ByteArray.empty, 0, []⟩
def rootOne (x : At) (p : Pr) : Option Pr :=
  if x.name.toList = fromT.toList then some { p with sender := x.value }
  else if x.name.toList = toT.toList then some { p with goal := x.value }
  else if x.name.toList = typeT.toList then (if hasIx kindWs x.value < 1 then none else some { p with kind := hasIx kindWs x.value })
  else none
def rootF (l : List At) : Nat → Nat → Pr → Option Pr
  | 0, _, p => some p
  | f + 1, i, p => match rootOne (l.getD i dAt) p with | some q => rootF l f (i + 1) q | none => none
def rootP (x : It) (p : Pr) : Option Pr :=
  if x.name.toList = prT.toList ∧ x.space.toList = csL then rootF x.attrs x.attrs.length 0 p else none
def partP (l : List It) (i : Nat) (p : Pr) : Option Pr :=
  match textL l i with
  | none => none
  | some t =>
    if (l.getD i dIt).attrs.length ≠ 0 then none
    else if (l.getD i dIt).name.toList = showNm.toList then (if hasIx showWs t < 1 then none else some { p with shown := hasIx showWs t })
    else if (l.getD i dIt).name.toList = statusNm.toList then some { p with status := t }
    else if (l.getD i dIt).name.toList = prioNm.toList then (match numOf t.toList with | some n => some { p with prio := n } | none => none)
    else none
def kidOne (l : List It) (i : Nat) (s : List ByteArray × Pr) : Option (List ByteArray × Pr) :=
  if (l.getD i dIt).name.toList.isEmpty then none
  else if (l.getD i dIt).space.toList ≠ csL then some (s.1, { s.2 with more := s.2.more ++ movedTo l i (endL l i) (-1) })
  else if 0 ≤ hasIx s.1 (l.getD i dIt).name then none
  else match partP l i s.2 with | some q => some (s.1 ++ [(l.getD i dIt).name], q) | none => none
def kidsF (l : List It) (ks : List Int) : Nat → Nat → List ByteArray × Pr → Option Pr
  | 0, _, s => some s.2
  | f + 1, j, s => match kidOne l (ks.getD j 0).toNat s with | some t => kidsF l ks f (j + 1) t | none => none
def readP (l : List It) : Option Pr := match rootP (l.getD 0 dIt) dPr with | some p => kidsF l (kidsL l 0) (kidsL l 0).length 0 ([], p) | none => none
theorem rootF_step {l : List At} {f i : Nat} {p q : Pr} (h : rootOne (l.getD i dAt) p = some q) : rootF l (f + 1) i p = rootF l f (i + 1) q := by
  simp only [rootF, h]
theorem rootF_stop {l : List At} {f i : Nat} {p : Pr} (h : rootOne (l.getD i dAt) p = none) : rootF l (f + 1) i p = none := by
  simp only [rootF, h]
theorem kidsF_step {l : List It} {ks : List Int} {f j : Nat} {s t : List ByteArray × Pr} (h : kidOne l (ks.getD j 0).toNat s = some t) : kidsF l ks (f + 1) j s = kidsF l ks f (j + 1) t := by
  simp only [kidsF, h]
theorem kidsF_stop {l : List It} {ks : List Int} {f j : Nat} {s : List ByteArray × Pr} (h : kidOne l (ks.getD j 0).toNat s = none) : kidsF l ks (f + 1) j s = none := by
  simp only [kidsF, h]
theorem rootOne_rest {x : At} {p q : Pr} (h : rootOne x p = some q) : q.shown = p.shown ∧ q.status = p.status ∧ q.prio = p.prio ∧ q.more = p.more := by
  unfold rootOne at h
  split at h
  · cases h; exact ⟨rfl, rfl, rfl, rfl⟩
  · split at h
    · cases h; exact ⟨rfl, rfl, rfl, rfl⟩
    · split at h
      · split at h
        · cases h
        · cases h; exact ⟨rfl, rfl, rfl, rfl⟩
      · cases h
theorem rootF_rest {l : List At} : ∀ {f i : Nat} {p q : Pr}, rootF l f i p = some q → q.shown = p.shown ∧ q.status = p.status ∧ q.prio = p.prio ∧ q.more = p.more
  | 0, i, p, q, h => by cases h; exact ⟨rfl, rfl, rfl, rfl⟩
  | f + 1, i, p, q, h => by
    cases h1 : rootOne (l.getD i dAt) p with
    | none => rw [rootF_stop h1] at h; cases h
    | some r =>
      rw [rootF_step h1] at h
      obtain ⟨a1, a2, a3, a4⟩ := rootF_rest h
      obtain ⟨b1, b2, b3, b4⟩ := rootOne_rest h1
      exact ⟨a1.trans b1, a2.trans b2, a3.trans b3, a4.trans b4⟩
def elemI (d : Int) (sp nm : ByteArray) (es : List At) : It := ⟨d, ⟨#[]⟩, sp, nm, es⟩
def textI (d : Int) (t : ByteArray) : It := ⟨d, t, ⟨#[]⟩, ⟨#[]⟩, []⟩
end Go.Proofs.YtjkmgpomcnplnaaGreatDoor
namespace Go.Proofs.YtjkmgpomcnplnaaGreatDoor
open Go.Lib
set_option linter.unusedVariables false
theorem ascii_chars : ∀ (l : List UInt8), (∀ c ∈ l, c.toNat < 128 ∧ charB (c.toNat : Int) = true) → (strm l).all goodB = true
  | [], _ => by rw [strm_nil]; rfl
  | c :: l, h => by
    obtain ⟨h1, h2⟩ := h c (by simp)
    have hb0 : by' (c :: l) 0 = (c.toNat : Int) := rfl
    have hi := first1 (c :: l) (by simp) (by rw [hb0]; omega)
    have hf : foldP (c :: l) 1 = (c.toNat : Int) := by rw [foldP_1, leadP_1 (by rw [hb0]; omega), hb0]
    have ok : FirstOk (c :: l) 1 := by
      obtain ⟨n1, n2⟩ := num1 c.toNat h1
      exact ⟨by rw [hf]; exact n1, by rw [hf, n2]; rfl⟩
    have hb := hi.1.1 ok
    obtain ⟨e1, e2⟩ := hi.2 hb
    have ih := ascii_chars l (fun x hx => h x (by simp [hx]))
    rw [strm_step _ (by simp) hb, e1, e2, hf]
    simp only [List.drop_succ_cons, List.drop_zero, List.all_cons, ih, goodB, h2, Bool.and_self]
def okB (l : List UInt8) : Bool := (strm l).all (·.2)
def plainB (c : UInt8) : Bool := decide (c.toNat < 128) && charB (c.toNat : Int)
theorem chars_plain {l : List UInt8} (h : l.all plainB = true) : charsB l = true :=
  ascii_chars l fun c hc => by
    have := List.all_eq_true.1 h c hc
    simp [plainB] at this
    exact this
end Go.Proofs.YtjkmgpomcnplnaaGreatDoor
namespace Go.Proofs.YtjkmgpomcnplnaaGreatDoor
open Go.ChangeShapes Go.WideShapes Go.ChangeAt Go.RowKit
set_option linter.unusedVariables false
set_option linter.unusedSimpArgs false
theorem pres_parts {p : Pr} (h : presCode p = 0) : (0 ≤ p.kind ∧ p.kind ≤ 6) ∧ (0 ≤ p.shown ∧ p.shown ≤ 4) ∧ (-128 ≤ p.prio ∧ p.prio ≤ 127) ∧ textFault p.sender.data.toList = 0 ∧ textFault p.goal.data.toList = 0 ∧ textFault p.status.data.toList = 0 ∧ fits p = true ∧ moreCode p.more = 0 := by
  unfold presCode at h
  split at h
  · omega
  · rename_i h1
    rw [Bool.not_eq_false, Bool.and_eq_true, Bool.and_eq_true] at h1
    obtain ⟨⟨i0, i1⟩, i2⟩ := h1
    simp only [inB, decide_eq_true_eq] at i0 i1 i2
    split at h
    · rename_i h2; exact absurd h h2
    · rename_i h2
      rw [Decidable.not_not] at h2
      split at h
      · omega
      · rename_i h3
        rw [Bool.not_eq_false] at h3
        unfold wordsCode at h2
        split at h2
        · rename_i h4; exact absurd h2 h4
        · rename_i h4
          split at h2
          · rename_i h5; exact absurd h2 h5
          · rename_i h5
            exact ⟨by omega, by omega, by omega, Decidable.not_not.1 h4, Decidable.not_not.1 h5, h2, h3, h⟩
theorem text_nil : textFault [] = 0 := by decide
def Fine (x : It) : Prop := itemCode x = 0 ∧ DrawnIt x
theorem fine_elem (d : Int) (sp nm : ByteArray) (es : List At) (hd : 0 ≤ d ∧ d ≤ 6) (h1 : nm.toList.isEmpty = false) (h2 : isNameL nm.data.toList = true) (h3 : textFault sp.data.toList = 0) (h4 : attrsCode es = 0) (hs : sp.size ≤ 60 ∧ nm.size ≤ 60) (hf : es.length ≤ 5) (ha : ShortAts es) : Fine (elemI d sp nm es) := by
  refine ⟨?_, hd, ⟨by show (⟨#[]⟩ : ByteArray).size ≤ 60; decide, hs.1, hs.2⟩, hf, ha⟩
  unfold itemCode
  rw [if_neg (by show ¬ (d < 0 ∨ 6 < d); omega)]
  show (if nm.toList.isEmpty = true then _ else _) = _
  rw [h1, if_neg (by decide)]
  unfold elemCode
  have e0 : (elemI d sp nm es).text.toList.isEmpty = true := by rw [empty_iff]; rfl
  rw [e0, if_neg (by decide)]
  show (if isNameL nm.data.toList = false then _ else if textFault sp.data.toList = 0 then attrsCode es else _) = _
  rw [h2, if_neg (by decide), h3, if_pos rfl, h4]
theorem fine_text (d : Int) (t : ByteArray) (hd : 0 ≤ d ∧ d ≤ 6) (h1 : t.toList.isEmpty = false) (h2 : textFault t.data.toList = 0) (hs : t.size ≤ 60) : Fine (textI d t) := by
  refine ⟨?_, hd, ⟨hs, by show (⟨#[]⟩ : ByteArray).size ≤ 60; decide, by show (⟨#[]⟩ : ByteArray).size ≤ 60; decide⟩, by show (0 : Nat) ≤ 5; decide, fun i => by simp [textI, dAt]⟩
  unfold itemCode
  rw [if_neg (by show ¬ (d < 0 ∨ 6 < d); omega)]
  have e0 : (textI d t).name.toList.isEmpty = true := by rw [empty_iff]; rfl
  rw [e0, if_pos rfl]
  unfold textCode
  have e1 : (textI d t).space.toList.isEmpty = true := by rw [empty_iff]; rfl
  rw [if_neg]
  · exact h2
  · rw [e1]
    show ¬ (true = false ∨ 0 < 0 ∨ t.toList.isEmpty = true)
    rw [h1]
    simp
theorem short_none : ShortAts [] := fun i => by simp [dAt]
theorem size_empty {s : ByteArray} (h : 0 < s.size) : s.toList.isEmpty = false := by
  rw [Bool.eq_false_iff]
  intro he
  rw [empty_iff] at he
  have h1 : s.size = s.data.toList.length := by simp
  rw [he, List.length_nil] at h1
  omega
def shapeI (x : It) : Int × Bool := (x.depth, x.name.toList.isEmpty)
def stL (m : List (Int × Bool)) : Bool := decide ((m.getD 0 (0, true)).1 = 0) && !(m.getD 0 (0, true)).2 && (List.range m.length).all fun i => i == 0 || standB (m.getD i (0, true)).1 (m.getD (i - 1) (0, true)).1 (m.getD i (0, true)).2 (m.getD (i - 1) (0, true)).2
theorem shape_d : shapeI dIt = (0, true) := by
  show ((0 : Int), (ByteArray.empty).toList.isEmpty) = _
  rw [show (ByteArray.empty).toList.isEmpty = true from by rw [empty_iff]; rfl]
theorem stands_shape (l : List It) : stands l = stL (l.map shapeI) := by
  have g : ∀ i, (l.map shapeI).getD i (0, true) = shapeI (l.getD i dIt) := fun i => by
    rw [← shape_d, List.getD_eq_getElem?_getD, List.getD_eq_getElem?_getD, List.getElem?_map]
    cases l[i]? <;> rfl
  unfold stands stL mayStand
  simp only [g, List.length_map]
  rfl
theorem shape_elem (d : Int) (sp nm : ByteArray) (es : List At) (h : 0 < nm.size) : shapeI (elemI d sp nm es) = (d, false) := by
  show (d, nm.toList.isEmpty) = _
  rw [size_empty h]
theorem shape_text (d : Int) (t : ByteArray) : shapeI (textI d t) = (d, true) := by
  show (d, (⟨#[]⟩ : ByteArray).toList.isEmpty) = _
  rw [show (⟨#[]⟩ : ByteArray).toList.isEmpty = true from by first | (rw [empty_iff]; done) | (rw [empty_iff]; rfl)]
def chainL (p : Int × Bool) : List (Int × Bool) → Bool
  | [] => true
  | x :: l => standB x.1 p.1 x.2 p.2 && chainL x l
theorem chain_range : ∀ (m : List (Int × Bool)) (p : Int × Bool), chainL p m = (List.range m.length).all fun j => standB (m.getD j (0, true)).1 ((p :: m).getD j (0, true)).1 (m.getD j (0, true)).2 ((p :: m).getD j (0, true)).2
  | [], p => rfl
  | x :: m, p => by
    unfold chainL
    rw [chain_range m x, List.length_cons, List.range_succ_eq_map, List.all_cons, List.all_map]
    rfl
theorem stands_chain (x : Int × Bool) (m : List (Int × Bool)) : stL (x :: m) = (decide (x.1 = 0) && !x.2 && chainL x m) := by
  unfold stL
  rw [chain_range, List.length_cons, List.range_succ_eq_map, List.all_cons, List.all_map]
  rfl
theorem chain_app : ∀ (l1 : List (Int × Bool)) (p : Int × Bool) (l2 : List (Int × Bool)), chainL p (l1 ++ l2) = (chainL p l1 && chainL (l1.getLastD p) l2)
  | [], p, l2 => by simp [chainL]
  | x :: l1, p, l2 => by
    show (standB x.1 p.1 x.2 p.2 && chainL x (l1 ++ l2)) = ((standB x.1 p.1 x.2 p.2 && chainL x l1) && chainL ((x :: l1).getLastD p) l2)
    rw [chain_app l1 x l2, List.getLastD_cons, Bool.and_assoc]
theorem more_parts {l : List It} (h : moreCode l = 0) : l.length ≤ 20 ∧ (∀ i, i < l.length → itemCode (l.getD i dIt) = 0 ∧ (l.getD i dIt).depth ≤ 5) ∧ (∀ i, i < l.length → moreStand l i = true) := by
  by_cases h20 : 20 < l.length
  · rw [moreCode_many h20] at h
    cases h
  · have h0 : ∀ i, i < l.length → moreAt (l.getD i dIt) = 0 := by
      intro i hi
      by_cases hq : ∀ j, j < l.length → moreAt (l.getD j dIt) = 0
      · exact hq i hi
      · exfalso
        have : ∃ k, k < l.length ∧ moreAt (l.getD k dIt) ≠ 0 ∧ ∀ j, j < k → moreAt (l.getD j dIt) = 0 := by
          have hex : ∃ k, k < l.length ∧ moreAt (l.getD k dIt) ≠ 0 := by
            rcases Classical.not_forall.1 hq with ⟨k, hk⟩
            rcases Classical.not_imp.1 hk with ⟨h1, h2⟩
            exact ⟨k, h1, h2⟩
          have key : ∀ n, (∃ k, k < n ∧ k < l.length ∧ moreAt (l.getD k dIt) ≠ 0) → ∃ k, k < l.length ∧ moreAt (l.getD k dIt) ≠ 0 ∧ ∀ j, j < k → moreAt (l.getD j dIt) = 0 := by
            intro n
            induction n with
            | zero => rintro ⟨k, hk, _⟩; omega
            | succ n ih =>
              rintro ⟨k, hk, hkl, hkm⟩
              by_cases he : ∃ k, k < n ∧ k < l.length ∧ moreAt (l.getD k dIt) ≠ 0
              · exact ih he
              · refine ⟨k, hkl, hkm, fun j hj => ?_⟩
                by_cases hz : moreAt (l.getD j dIt) = 0
                · exact hz
                · exact absurd ⟨j, by omega, by omega, hz⟩ he
          obtain ⟨k, h1, h2⟩ := hex
          exact key (k + 1) ⟨k, by omega, h1, h2⟩
        obtain ⟨k, h1, h2, h3⟩ := this
        rw [moreCode_at h20 h1 h3 h2] at h
        exact h2 h
    rw [moreCode_end h20 h0] at h
    have hst : moreStands l = true := by
      split at h
      · rename_i h1; exact h1
      · cases h
    refine ⟨by omega, fun i hi => ?_, fun i hi => ?_⟩
    · have := h0 i hi
      unfold moreAt at this
      split at this
      · rename_i h1; exact absurd this h1
      · rename_i h1
        have hi0 := Decidable.not_not.1 h1
        refine ⟨hi0, ?_⟩
        split at this
        · cases this
        · rename_i h2
          unfold itemCode at hi0
          split at hi0
          · cases hi0
          · omega
    · unfold moreStands at hst
      rw [List.all_eq_true] at hst
      exact hst i (List.mem_range.2 hi)
theorem depth_of {x : It} (h : itemCode x = 0) : 0 ≤ x.depth ∧ x.depth ≤ 6 := by
  unfold itemCode at h
  split at h
  · cases h
  · omega
theorem moved_code {x : It} (h : itemCode x = 0) (hd : x.depth ≤ 5) : itemCode ⟨x.depth + 1, x.text, x.space, x.name, x.attrs⟩ = 0 := by
  have h1 := depth_of h
  unfold itemCode at h ⊢
  rw [if_neg (by omega)] at h
  rw [if_neg (by show ¬ (x.depth + 1 < 0 ∨ 6 < x.depth + 1); omega)]
  exact h
theorem moved_chain {l : List It} (h : moreCode l = 0) (p : Int × Bool) (hp : (p.1 = 0 ∧ p.2 = false) ∨ 1 ≤ p.1) : chainL p ((movedTo l 0 l.length 1).map shapeI) = true := by
  obtain ⟨hl, hi, hs⟩ := more_parts h
  have hg : ∀ i, i < l.length → ((movedTo l 0 l.length 1).map shapeI).getD i (0, true) = ((l.getD i dIt).depth + 1, (l.getD i dIt).name.toList.isEmpty) := fun i hi2 => by
    have := movedTo_get l 0 l.length 1 i (by omega)
    rw [List.getD_eq_getElem?_getD, List.getElem?_map]
    rw [List.getD_eq_getElem?_getD, List.getElem?_eq_getElem (by rw [movedTo_length]; omega)] at this
    rw [List.getElem?_eq_getElem (by rw [movedTo_length]; omega)]
    simp only [Option.map_some, Option.getD_some] at this ⊢
    rw [this, Nat.zero_add]
    rfl
  rw [chain_range, List.all_eq_true]
  intro j hj
  have hj2 : j < l.length := by
    have := List.mem_range.1 hj
    rwa [List.length_map, movedTo_length, Nat.sub_zero] at this
  have h1 := hs j hj2
  have hd := depth_of (hi j hj2).1
  unfold moreStand at h1
  rw [Bool.and_eq_true] at h1
  rw [hg j hj2]
  rcases j with _ | j
  · show standB _ p.1 _ p.2 = true
    have hh := head_yes h1.1
    rcases hh with ⟨e1, e2, e3⟩ | ⟨e1, e2⟩
    · have e1' : (l.getD 0 dIt).depth = 0 := by simpa using e1
      unfold standB
      show (!(((l.getD 0 dIt).depth + 1 == 0) || decide (p.1 + 1 < (l.getD 0 dIt).depth + 1) || (decide (p.1 < (l.getD 0 dIt).depth + 1) && p.2) || ((l.getD 0 dIt).name.toList.isEmpty && p.2 && ((l.getD 0 dIt).depth + 1 == p.1)))) = true
      rw [e1', e2]
      rcases hp with ⟨q1, q2⟩ | q1
      · rw [q1, q2]; decide
      · have a1 : decide (p.1 + 1 < 0 + 1) = false := by rw [decide_eq_false_iff_not]; omega
        have a2 : decide (p.1 < 0 + 1) = false := by rw [decide_eq_false_iff_not]; omega
        rw [a1, a2]
        simp
    · simp at e2
  · show standB _ (((movedTo l 0 l.length 1).map shapeI).getD j (0, true)).1 _ (((movedTo l 0 l.length 1).map shapeI).getD j (0, true)).2 = true
    rw [hg j (by omega)]
    have h2 := h1.2
    have e0 : decide (j + 1 = 0) = false := by simp
    rw [e0, Bool.false_or, Nat.add_sub_cancel] at h2
    unfold stepB at h2
    unfold standB
    show (!(((l.getD (j + 1) dIt).depth + 1 == 0) || decide ((l.getD j dIt).depth + 1 + 1 < (l.getD (j + 1) dIt).depth + 1) || (decide ((l.getD j dIt).depth + 1 < (l.getD (j + 1) dIt).depth + 1) && (l.getD j dIt).name.toList.isEmpty) || ((l.getD (j + 1) dIt).name.toList.isEmpty && (l.getD j dIt).name.toList.isEmpty && ((l.getD (j + 1) dIt).depth + 1 == (l.getD j dIt).depth + 1)))) = true
    have a0 : ((l.getD (j + 1) dIt).depth + 1 == 0) = false := by rw [beq_eq_false_iff_ne]; omega
    have a1 : decide ((l.getD j dIt).depth + 1 + 1 < (l.getD (j + 1) dIt).depth + 1) = decide ((l.getD j dIt).depth + 1 < (l.getD (j + 1) dIt).depth) := by rw [decide_eq_decide]; omega
    have a2 : decide ((l.getD j dIt).depth + 1 < (l.getD (j + 1) dIt).depth + 1) = decide ((l.getD j dIt).depth < (l.getD (j + 1) dIt).depth) := by rw [decide_eq_decide]; omega
    have a3 : ((l.getD (j + 1) dIt).depth + 1 == (l.getD j dIt).depth + 1) = ((l.getD (j + 1) dIt).depth == (l.getD j dIt).depth) := by
      rw [Bool.eq_iff_iff, beq_iff_eq, beq_iff_eq]
      omega
    rw [a0, a1, a2, a3, Bool.false_or]
    exact h2
end Go.Proofs.YtjkmgpomcnplnaaGreatDoor
