/- spec.l4End, l4Value. -/
import Derived.Test.YticpebpicdboaaaGreatDoorGY0
import Derived.Test.YticpebpicdboaaaGreatDoorGY16
import Derived.Test.YticpebpicdboaaaGreatDoorGY2
namespace Go.Proofs.YticpebpicdboaaaGreatDoor
open Go.ChangeShapes Go.WideShapes Go.ChangeAt Go.RowKit
set_option linter.unusedVariables false

def endF (l : List It) (d : Int) : Nat → Nat → Nat
  | 0, j => j
  | f + 1, j => if d < (l.getD j dIt).depth then endF l d f (j + 1) else j
/-- the place behind all that is in the item at place a -/
def endL (l : List It) (a : Nat) : Nat := endF l (l.getD a dIt).depth (l.length - (a + 1)) (a + 1)
theorem endF_ge (l : List It) (d : Int) : ∀ f j, j ≤ endF l d f j ∧ endF l d f j ≤ j + f
  | 0, j => ⟨Nat.le_refl _, Nat.le_refl _⟩
  | f + 1, j => by
    unfold endF
    split
    · have := endF_ge l d f (j + 1); omega
    · omega
theorem endL_bounds {l : List It} {a : Nat} (h : a < l.length) : a + 1 ≤ endL l a ∧ endL l a ≤ l.length := by
  have := endF_ge l (l.getD a dIt).depth (l.length - (a + 1)) (a + 1)
  unfold endL
  omega
theorem endF_in (l : List It) (d : Int) : ∀ f j i, j ≤ i → i < endF l d f j → d < (l.getD i dIt).depth
  | 0, j, i, h1, h2 => by unfold endF at h2; omega
  | f + 1, j, i, h1, h2 => by
    unfold endF at h2
    split at h2
    · rename_i h
      rcases Nat.lt_or_ge j i with h3 | h3
      · exact endF_in l d f (j + 1) i h3 h2
      · obtain rfl : i = j := by omega
        exact h
    · omega

set_option maxRecDepth 100000 in
set_option maxHeartbeats 1600000 in
theorem specEnd_any (a : Option Addr) (n c p : Nat) (l : List It) (w : World) (hp : p < n) (h : ItsAt w a n c l) :
    Calls Tryz.prog 160 #[.slice a n c, .int .i64 p] w fun e w' => e = .returned (.int .i64 ((endL l p : Nat) : Int)) ∧ ∃ n, w' = w.drewN n := by
  have hm := h.max
  have HL := Lib.hid h.len
  obtain ⟨b, o, rfl, h4⟩ := h.row.resolve_left (by omega)
  have H4 := Lib.hid h4
  have e0 := (h4 p hp).c0
  obtain ⟨E, hE⟩ : ∃ E, endL l p = E := ⟨_, rfl⟩
  rw [hE]
  unfold endL at hE
  rw [h.len] at hE
  obtain ⟨d, hd⟩ : ∃ d, (l.getD p dIt).depth = d := ⟨_, rfl⟩
  rw [hd] at hE e0
  have HE := Lib.hid hE
  have q0 : (p : Int) < (n : Int) := by omega
  clear h h4 hE hd
  go_enter Tryz.func160, Tryz.ntmps160
  go_wp2
  go_loopw [5] (fun i wr => ∃ k : Nat, p + 1 ≤ k ∧ k ≤ n ∧ i = .int .i64 k ∧ endF l d (n - k) k = E ∧ ∃ nd, wr = w.drewN nd) (fun i _ => n - (intOf i).toNat)
  case atStart => exact ⟨p + 1, Nat.le_refl _, by omega, by go_num, HE.out, 0, rfl⟩
  case round =>
    obtain ⟨k, hk1, hk, rfl, hk2, hw⟩ := hrel
    have HW := Lib.hid hw
    have HK := Lib.hid hk2
    clear hw hk2
    by_cases hlt : k < n
    · have hbw : Below w.heap.size w wr := by obtain ⟨nd, rfl⟩ := HW.out; exact below_drewN (Below.refl _ _) nd
      have d0 := ((H4.out k hlt).below hbw).c0
      have e1 := (hbw.cell (p := ⟨b, o + p * 5, none⟩) (H4.out p hp).lt).trans e0
      clear hbw
      have hst : n - k = (n - (k + 1)) + 1 := by omega
      have HST := Lib.hid hst
      clear hst
      have q1 : decide ((k : Int) < (n : Int)) = true := by rw [decide_eq_true_iff]; omega
      have q2 : (k : Int) < (n : Int) := by omega
      obtain ⟨x, hx⟩ : ∃ x, (l.getD k dIt).depth = x := ⟨_, rfl⟩
      rw [hx] at d0
      by_cases hdx : d < x
      · have HK2 : Hid (endF l d (n - (k + 1)) (k + 1) = E) := Lib.hid (by
          have := HK.out; rw [HST.out] at this; unfold endF at this; rw [hx, if_pos hdx] at this; exact this)
        have q3 : decide (d < x) = true := by simpa using hdx
        clear hx
        go_wp2_with fail
        go_quiet (fail)
        go_wp2
        go_roundw
        case rel => exact ⟨k + 1, by omega, by omega, by go_num, HK2.out, drew_more HW.out _⟩
        case measure => simp [intOf]; omega
      · have HK2 : Hid (k = E) := Lib.hid (by
          have := HK.out; rw [HST.out] at this; unfold endF at this; rw [hx, if_neg hdx] at this; exact this)
        have q3 : decide (d < x) = false := by simpa using hdx
        clear hx
        go_wp2_with fail
        go_quiet (fail)
        go_wp2
        go_ret
        exact ⟨ret_n HK2.out, drew_more HW.out _⟩
    · obtain rfl : k = n := by omega
      have HK2 : Hid (k = E) := Lib.hid (by have := HK.out; rw [Nat.sub_self] at this; exact this)
      have q1 : decide ((k : Int) < (k : Int)) = false := by rw [decide_eq_false_iff_not]; omega
      go_wp2_with fail
      go_quiet (fail)
      go_wp2
      go_ret
      exact ⟨ret_n HK2.out, drew_more HW.out _⟩
end Go.Proofs.YticpebpicdboaaaGreatDoor

/- spec.l4Value. -/
namespace Go.Proofs.YticpebpicdboaaaGreatDoor
open Go.ChangeShapes Go.WideShapes Go.ChangeAt Go.RowKit
set_option linter.unusedVariables false

/-- the value that an attribute of this name has -/
def valueL (l : List At) (name : ByteArray) : Option ByteArray := (l.find? fun x => x.name.toList == name.toList).map (·.value)
def valT (v : Option ByteArray) : ByteArray := match v with | some t => t | none => ByteArray.empty
theorem valueL_at {l : List At} {name : ByteArray} {k : Nat} (hk : k < l.length) (h0 : ∀ j, j < k → ((l.getD j dAt).name.toList == name.toList) = false) (h1 : ((l.getD k dAt).name.toList == name.toList) = true) : valueL l name = some (l.getD k dAt).value := by
  unfold valueL
  rw [find_at l dAt _ k hk h0 h1]; rfl
theorem valueL_no {l : List At} {name : ByteArray} (h0 : ∀ j, j < l.length → ((l.getD j dAt).name.toList == name.toList) = false) : valueL l name = none := by
  unfold valueL
  rw [find_no l dAt _ h0]; rfl

set_option maxRecDepth 100000 in
set_option maxHeartbeats 1600000 in
theorem specValue_any (b o : Nat) (x : It) (name : ByteArray) (w : World) (h : ItAt w b o x) :
    Calls Tryz.prog 181 #[.pointer (some ⟨b, o, none⟩), .string name] w fun e w' => e = .returned (.tuple #[.string (valT (valueL x.attrs name)), .bool (valueL x.attrs name).isSome]) ∧ w' = w := by
  obtain ⟨a4, n, c4, d4, hat⟩ := h.c4
  have hm := hat.max
  have HR := Lib.hid hat.row
  have HV1 : Hid (∀ k, k < n → (∀ j, j < k → ((x.attrs.getD j dAt).name.toList == name.toList) = false) → ((x.attrs.getD k dAt).name.toList == name.toList) = true → valueL x.attrs name = some (x.attrs.getD k dAt).value) := Lib.hid fun k hk => valueL_at (by have := hat.len; omega)
  have HV2 : Hid ((∀ j, j < n → ((x.attrs.getD j dAt).name.toList == name.toList) = false) → valueL x.attrs name = none) := Lib.hid fun h0 => valueL_no fun j hj => h0 j (by have := hat.len; omega)
  generalize valueL x.attrs name = v at HV1 HV2
  generalize x.attrs = l at HR HV1 HV2
  clear h hat
  go_enter Tryz.func181, Tryz.ntmps181
  go_wp2
  go_loop [12] (fun i => ∃ k : Nat, k ≤ n ∧ i = .int .i64 k ∧ (∀ j, j < k → ((l.getD j dAt).name.toList == name.toList) = false)) (fun i => n - (intOf i).toNat)
  case atStart => exact ⟨0, Nat.zero_le _, rfl, fun j hj => by omega⟩
  case round =>
    obtain ⟨k, hk, rfl, hz⟩ := hrel
    have HZ := Lib.hid hz
    clear hz
    by_cases hlt : k < n
    · obtain ⟨b4, o4, rfl, h3, h4⟩ := HR.out.resolve_left (by omega)
      have d0 := (h4 k hlt).1
      have d1 := (h4 k hlt).2
      have HV3 := Lib.hid (HV1.out k hlt HZ.out)
      have HZ2 : Hid (((l.getD k dAt).name.toList == name.toList) = false → ∀ j, j < k + 1 → ((l.getD j dAt).name.toList == name.toList) = false) := Lib.hid fun e j hj => by
        rcases Nat.lt_or_ge j k with h | h
        · exact HZ.out j h
        · obtain rfl : j = k := by omega
          exact e
      have q0 : (k : Int) < (n : Int) := by omega
      clear h4
      generalize l.getD k dAt = y at d0 d1 HV3 HZ2
      obtain ⟨s, t⟩ := y
      dsimp only at d0 d1 HV3 HZ2
      cases hq : s.toList == name.toList
      · have HZ3 := Lib.hid (HZ2.out hq)
        clear HZ2 HV3
        go_wp2
        go_round
        case rel => exact ⟨k + 1, by omega, by go_num, HZ3.out⟩
        case measure => simp [intOf]; omega
      · have HV4 := Lib.hid (HV3.out hq)
        clear HZ2 HV3
        go_wp2
        go_ret2
        exact ⟨by rw [HV4.out]; rfl, rfl⟩
    · obtain rfl : k = n := by omega
      have HV4 := Lib.hid (HV2.out HZ.out)
      go_wp2
      go_ret2
      exact ⟨by rw [HV4.out]; rfl, rfl⟩
end Go.Proofs.YticpebpicdboaaaGreatDoor

/- Who is in whom in a tree laid flat, in plain words. -/
namespace Go.Proofs.YticpebpicdboaaaGreatDoor
open Go.ChangeShapes Go.WideShapes Go.ChangeAt Go.RowKit
set_option linter.unusedVariables false

def dp (l : List It) (i : Nat) : Int := (l.getD i dIt).depth
/-- the last item ahead of m that has this depth -/
def lastAt (l : List It) (d : Int) : Nat → Option Nat
  | 0 => none
  | m + 1 => if dp l m = d then some m else lastAt l d m
theorem lastAt_is {l : List It} {d : Int} : ∀ {m j : Nat}, lastAt l d m = some j → j < m ∧ dp l j = d ∧ ∀ i, j < i → i < m → dp l i ≠ d
  | m + 1, j, h => by
    unfold lastAt at h
    by_cases e : dp l m = d
    · rw [if_pos e] at h
      cases h
      exact ⟨Nat.lt_succ_self _, e, fun i h1 h2 => by omega⟩
    · rw [if_neg e] at h
      obtain ⟨h1, h2, h3⟩ := lastAt_is h
      refine ⟨by omega, h2, fun i hi hm => ?_⟩
      rcases Nat.lt_or_ge i m with g | g
      · exact h3 i hi g
      · obtain rfl : i = m := by omega
        exact e
/-- what a tree without fault is, as far as its depths go -/
structure Rises (l : List It) : Prop where
  some : 1 ≤ l.length
  few : l.length ≤ 40
  first : dp l 0 = 0
  step : ∀ i, 1 ≤ i → i < l.length → 1 ≤ dp l i ∧ dp l i ≤ dp l (i - 1) + 1
  text : ∀ i, 1 ≤ i → i < l.length → (l.getD (i - 1) dIt).name.toList.isEmpty = true → dp l i ≤ dp l (i - 1)
  bd : ∀ i, i < l.length → 0 ≤ dp l i ∧ dp l i ≤ 6
  good : ∀ i, i < l.length → itemCode (l.getD i dIt) = 0
theorem lastAt_ex {l : List It} (h : Rises l) : ∀ (m : Nat), m < l.length → ∀ d : Int, 0 ≤ d → d ≤ dp l m → ∃ j, lastAt l d (m + 1) = some j
  | 0, hm, d, h0, h1 => by
    have hf := h.first
    have h1' : d ≤ dp l 0 := h1
    have e : dp l 0 = d := by omega
    exact ⟨0, by unfold lastAt; exact if_pos e⟩
  | m + 1, hm, d, h0, h1 => by
    by_cases e : dp l (m + 1) = d
    · exact ⟨m + 1, by unfold lastAt; rw [if_pos e]⟩
    · have hs := (h.step (m + 1) (by omega) hm).2
      rw [Nat.add_sub_cancel] at hs
      obtain ⟨j, hj⟩ := lastAt_ex h m (by omega) d h0 (by omega)
      exact ⟨j, by unfold lastAt; rw [if_neg e]; exact hj⟩
/-- the item that k is in -/
def parOf (l : List It) (k : Nat) : Option Nat := lastAt l (dp l k - 1) k
theorem par_ex {l : List It} (h : Rises l) {k : Nat} (h1 : 1 ≤ k) (hk : k < l.length) : ∃ j, parOf l k = some j ∧ j < k ∧ dp l j = dp l k - 1 ∧ ∀ i, j < i → i < k → dp l i ≠ dp l k - 1 := by
  obtain ⟨m, rfl⟩ : ∃ m, k = m + 1 := ⟨k - 1, by omega⟩
  have hs := h.step (m + 1) h1 hk
  rw [Nat.add_sub_cancel] at hs
  obtain ⟨j, hj⟩ := lastAt_ex h m (by omega) (dp l (m + 1) - 1) (by omega) (by omega)
  exact ⟨j, hj, lastAt_is hj⟩
def kidB (l : List It) (j k : Nat) : Bool := decide (0 < dp l k) && decide (parOf l k = some j)
/-- those that are in j, one step deeper, ahead of m -/
def kidsUp (l : List It) (m j : Nat) : List Nat := (List.range m).filter (kidB l j)
theorem kidsUp_succ (l : List It) (m j : Nat) : kidsUp l (m + 1) j = kidsUp l m j ++ (if kidB l j m = true then [m] else []) := by
  unfold kidsUp
  rw [List.range_succ, List.filter_append]
  cases h : kidB l j m <;> simp [h]
theorem kidsUp_lt {l : List It} {m j k : Nat} (h : k ∈ kidsUp l m j) : k < m := by
  unfold kidsUp at h
  rw [List.mem_filter, List.mem_range] at h
  exact h.1
theorem kidsUp_len (l : List It) (m j : Nat) : (kidsUp l m j).length ≤ m := by
  unfold kidsUp
  have := List.length_filter_le (kidB l j) (List.range m)
  rw [List.length_range] at this
  exact this
theorem kidB_root {l : List It} {m : Nat} (h : dp l m = 0) (j : Nat) : kidB l j m = false := by
  unfold kidB
  rw [decide_eq_false (by omega)]
  rfl
theorem kidB_par {l : List It} {m p : Nat} (h0 : 0 < dp l m) (hp : parOf l m = some p) (j : Nat) : kidB l j m = decide (j = p) := by
  unfold kidB
  rw [decide_eq_true h0, hp]
  by_cases e : j = p
  · rw [e]; simp
  · rw [decide_eq_false e, decide_eq_false (fun h => e (by simpa using h.symm))]
    rfl
theorem rises_of {l : List It} (h : treeCode l = 0) : Rises l := by
  unfold treeCode at h
  split at h
  · omega
  · rename_i h1
    have hgood : ∀ i, i < l.length → itemCode (l.getD i dIt) = 0 := by
      intro i hi
      cases hf : l.find? (fun x => itemCode x != 0) with
      | some y =>
        rw [hf] at h
        have := List.find?_some hf
        rw [bne_iff_ne] at this
        exact absurd h this
      | none =>
        rw [List.find?_eq_none] at hf
        have hm := hf (l.getD i dIt) (by rw [List.getD_eq_getElem?_getD, List.getElem?_eq_getElem hi]; exact List.getElem_mem hi)
        simpa using hm
    rw [find_no l dIt _ fun j hj => by simp only [hgood j hj]; decide] at h
    have hs : stands l = true := by
      cases e : stands l
      · rw [e] at h; simp at h
      · rfl
    unfold stands at hs
    simp only [Bool.and_eq_true, List.all_eq_true, decide_eq_true_eq] at hs
    obtain ⟨⟨hd, _⟩, hall⟩ := hs
    have hst : ∀ i, 1 ≤ i → i < l.length → mayStand (l.getD (i - 1) dIt) (l.getD i dIt) = true := fun i hi hl => by
      have := hall i (List.mem_range.2 hl)
      rw [Bool.or_eq_true, beq_iff_eq] at this
      rcases this with g | g
      · omega
      · exact g
    have key : ∀ i, 1 ≤ i → i < l.length → dp l i ≠ 0 ∧ dp l i ≤ dp l (i - 1) + 1 ∧ ((l.getD (i - 1) dIt).name.toList.isEmpty = true → dp l i ≤ dp l (i - 1)) := fun i hi hl => by
      have := hst i hi hl
      unfold mayStand standB at this
      rw [Bool.not_eq_true', Bool.or_eq_false_iff, Bool.or_eq_false_iff, Bool.or_eq_false_iff] at this
      obtain ⟨⟨⟨g1, g2⟩, g3⟩, _⟩ := this
      rw [beq_eq_false_iff_ne] at g1
      rw [decide_eq_false_iff_not] at g2
      refine ⟨g1, by unfold dp; omega, fun e => ?_⟩
      rw [e, Bool.and_true, decide_eq_false_iff_not] at g3
      unfold dp
      omega
    have hb : ∀ i, i < l.length → 0 ≤ dp l i ∧ dp l i ≤ 6 := fun i hi => item_depth (hgood i hi)
    exact ⟨by omega, by omega, hd, fun i hi hl => ⟨by have := (key i hi hl).1; have := (hb i hl).1; omega, (key i hi hl).2.1⟩, fun i hi hl => (key i hi hl).2.2, hb, hgood⟩
end Go.Proofs.YticpebpicdboaaaGreatDoor

/- spec.l4Kids, spec.l4Text. -/
namespace Go.Proofs.YticpebpicdboaaaGreatDoor
open Go.ChangeShapes Go.WideShapes Go.ChangeAt Go.RowKit
set_option linter.unusedVariables false

/-- the places behind a, up to e, whose Depth is d + 1 -/
def kidsTo (l : List It) (d : Int) (a e : Nat) : List Int := ((List.range' (a + 1) (e - (a + 1))).filter fun i => (l.getD i dIt).depth == d + 1).map fun i => ((i : Nat) : Int)
def kidsL (l : List It) (a : Nat) : List Int := kidsTo l (l.getD a dIt).depth a (endL l a)
theorem kidsTo_start (l : List It) (d : Int) (a : Nat) : kidsTo l d a (a + 1) = [] := by simp [kidsTo]
theorem kidsTo_step (l : List It) (d : Int) {a k : Nat} (h : a + 1 ≤ k) : kidsTo l d a (k + 1) = kidsTo l d a k ++ (if (l.getD k dIt).depth == d + 1 then [(k : Int)] else []) := by
  unfold kidsTo
  rw [show k + 1 - (a + 1) = (k - (a + 1)) + 1 by omega, List.range'_1_concat, List.filter_append, List.map_append, show a + 1 + (k - (a + 1)) = k by omega]
  congr 1
  simp only [List.filter_cons, List.filter_nil]
  split <;> simp
theorem kidsTo_length (l : List It) (d : Int) (a e : Nat) : (kidsTo l d a e).length ≤ e - (a + 1) := by
  unfold kidsTo
  rw [List.length_map]
  have := List.length_filter_le (fun i => (l.getD i dIt).depth == d + 1) (List.range' (a + 1) (e - (a + 1)))
  rw [List.length_range'] at this
  exact this
theorem i64InfoK : (Tryz.prog.info? 2).map (fun i => (i.zero, i.size, i.bytes)) = some (some (.int .i64 0), 1, 8) := by kernel_rfl

set_option maxRecDepth 100000 in
set_option maxHeartbeats 3200000 in
theorem specKids_any (a : Option Addr) (n c p : Nat) (l : List It) (w : World) (hn : n ≤ 1048576) (hd : ∀ i, i < n → -1000 ≤ (l.getD i dIt).depth ∧ (l.getD i dIt).depth ≤ 1000) (hp : p < n) (h : ItsAt w a n c l) :
    Calls Tryz.prog 159 #[.slice a n c, .int .i64 p] w (OwnsRes w 2 .i64 (kidsL l p)) := by
  obtain ⟨i0, hi, hz0, hz1, hz2⟩ := info_parts i64InfoK
  obtain ⟨b, o, rfl, h4⟩ := h.row.resolve_left (by omega)
  have H4 := Lib.hid h4
  have HD := Lib.hid hd
  have H := Lib.hid h
  have hbe := endL_bounds (l := l) (a := p) (by rw [h.len]; exact hp)
  rw [h.len] at hbe
  have hlt := (h4 p hp).lt
  obtain ⟨dp, hdp⟩ : ∃ dp, (l.getD p dIt).depth = dp := ⟨_, rfl⟩
  have hdp2 := hd p hp
  rw [hdp] at hdp2
  have e0 := (h4 p hp).c0
  rw [hdp] at e0
  obtain ⟨L, hL⟩ : ∃ L, kidsL l p = L := ⟨_, rfl⟩
  rw [hL]
  unfold kidsL at hL
  rw [hdp] at hL
  have KE := Lib.hid (fun W (hb : Below w.heap.size w W) => specEnd_any (some ⟨b, o, none⟩) n c p l W hp (h.below hb))
  obtain ⟨E, hE⟩ : ∃ E, endL l p = E := ⟨_, rfl⟩
  rw [hE] at hbe hL KE
  have HLL := Lib.hid hL
  have q0 : (p : Int) < (n : Int) := by omega
  obtain ⟨hbe1, hbe2⟩ := hbe
  clear h h4 hd hL hE hdp
  go_enter Tryz.func159, Tryz.ntmps159
  go_wp2
  go_loopw [5, 6] (fun v i wr => ∃ (k : Nat) (av : Option Addr) (nv cv : Nat), p + 1 ≤ k ∧ k ≤ E ∧ i = .int .i64 k ∧ v = .slice av nv cv ∧ wr.ownsRow w.heap.size 2 1 (.slice av nv cv) nv ((kidsTo l dp p k).map (Value.int .i64)) ∧ Below w.heap.size w wr) (fun _ i _ => E - (intOf i).toNat)
  case atStart =>
    refine ⟨p + 1, some ⟨w.heap.size, 0, none⟩, 0, 0, Nat.le_refl _, hbe1, by go_num, rfl, ?_, below1 _ _⟩
    rw [kidsTo_start]
    exact lit_owns w _ .i64 [] 0 rfl (by decide)
  case round =>
    obtain ⟨k, av, nv, cv, hk1, hk2, rfl, rfl, ho, hb⟩ := hrel
    have HO := Lib.hid ho
    have HB := Lib.hid hb
    have hnv : nv ≤ 1048576 := by
      have h1 := owns_length ho
      have h2 := kidsTo_length l dp p k
      omega
    clear ho hb
    by_cases hlt2 : k < E
    · go_wp2_with fail
      refine (KE.out _ HB.out).mono ?_
      rintro e w1 ⟨rfl, nd, rfl⟩
      have HB1 := Lib.hid (below_drewN HB.out nd)
      have d0 := ((H4.out k (by omega)).below HB.out).c0
      have e1 := (HB.out.cell (p := ⟨b, o + p * 5, none⟩) (by exact hlt)).trans e0
      have HOd := Lib.hid (fun m => owns_below HO.out (below_drewN (Below.refl _ wr) m))
      have HBd := Lib.hid (fun m => below_drewN HB.out m)
      have hdk := HD.out k (by omega)
      have q1 : (k : Int) < (n : Int) := by omega
      have HST := Lib.hid (kidsTo_step l dp hk1)
      have hw1 : IntKind.i64.wrap (dp + 1) = dp + 1 := IntWalk.i64_in _ (by omega)
      generalize (l.getD k dIt).depth = x at d0 HST hdk
      cases hq : x == dp + 1
      · have HST2 : Hid (kidsTo l dp p (k + 1) = kidsTo l dp p k) := Lib.hid (by rw [HST.out, hq]; simp)
        clear HST
        go_wp2_with fail
        go_quiet (fail)
        go_wp2
        go_roundw
        case rel => exact ⟨k + 1, av, nv, cv, by omega, by omega, by go_num, rfl, by rw [HST2.out]; exact HOd.out _, HBd.out _⟩
        case measure => simp [intOf]; omega
      · have HST2 : Hid (kidsTo l dp p (k + 1) = kidsTo l dp p k ++ [(k : Int)]) := Lib.hid (by rw [HST.out, hq]; simp)
        clear HST
        go_wp2_with fail
        go_quiet (fail)
        go_wp2_with (at_builtin; refine wpList_append_own _ rfl _ _ 170 rfl w.heap.size 2 i0 (.int .i64 0) 1 8 Tryz.underlying170 hi hz0 hz1 hz2 rfl (by decide) _ _ _ rfl ((HOd.out _).alloc _) ⟨wr.heap.size, 0, none⟩ 1 1 [.int .i64 (k : Int)] rfl rfl ?c1 ?c2 ?c3 ?c4 ?c5 ?_)
        case c1 =>
          intro j v hj
          match j, hj with
          | 0, hj =>
            simp at hj
            subst hj
            rw [show (⟨wr.heap.size, 0, none⟩ : Addr) = ⟨(wr.drewN (nd + nq)).heap.size, 0, none⟩ from rfl, Addr.add_lit]
            generalize wr.drewN (nd + nq) = W
            simp
        case c2 => intro v hv; simp at hv; subst hv; rfl
        case c3 => unfold maxLen; omega
        case c4 => omega
        case c5 => have := HB.out.size; simp; omega
        intro v' w2 hown' hgrow _
        obtain ⟨a', c', rfl⟩ := owns_slice hown'
        have HB2 := Lib.hid (below_appended (HBd.out _) (HOd.out _) hgrow)
        have HO2 := Lib.hid hown'
        clear hown' hgrow
        go_wp2
        go_roundw
        case rel => exact ⟨k + 1, a', _, c', by omega, by omega, by go_num, rfl, by rw [HST2.out, List.map_append]; exact HO2.out, HB2.out⟩
        case measure => simp [intOf]; omega
    · obtain rfl : k = E := by omega
      go_wp2_with fail
      refine (KE.out _ HB.out).mono ?_
      rintro e w1 ⟨rfl, nd, rfl⟩
      go_wp2
      go_ret
      exact ⟨av, nv, cv, rfl, by rw [← HLL.out]; exact owns_below HO.out (below_drewN (Below.refl _ wr) nd), below_drewN HB.out nd⟩

/-- the texts behind a up to e, if there is no element among them -/
def textF (l : List It) : Nat → Nat → ByteArray → Option ByteArray
  | 0, _, out => some out
  | f + 1, j, out => if (l.getD j dIt).name.toList.isEmpty = true then textF l f (j + 1) (out ++ (l.getD j dIt).text) else none
def textL (l : List It) (a : Nat) : Option ByteArray := textF l (endL l a - (a + 1)) (a + 1) ByteArray.empty
def txtT (v : Option ByteArray) : ByteArray := match v with | some t => t | none => ByteArray.empty

set_option maxRecDepth 100000 in
set_option maxHeartbeats 3200000 in
theorem specText_any (a : Option Addr) (n c p : Nat) (l : List It) (w : World) (hn : n ≤ 1048576) (hs : ∀ i, i < n → (l.getD i dIt).text.size ≤ 1048576) (hp : p < n) (h : ItsAt w a n c l) :
    Calls Tryz.prog 182 #[.slice a n c, .int .i64 p] w fun e w' => e = .returned (.tuple #[.string (txtT (textL l p)), .bool (textL l p).isSome]) ∧ ∃ n, w' = w.drewN n := by
  obtain ⟨b, o, rfl, h4⟩ := h.row.resolve_left (by omega)
  have H4 := Lib.hid h4
  have HS := Lib.hid hs
  have hbe := endL_bounds (l := l) (a := p) (by rw [h.len]; exact hp)
  rw [h.len] at hbe
  obtain ⟨V, hV⟩ : ∃ V, textL l p = V := ⟨_, rfl⟩
  rw [hV]
  unfold textL at hV
  have KE := Lib.hid (fun W (hb : Below w.heap.size w W) => specEnd_any (some ⟨b, o, none⟩) n c p l W hp (h.below hb))
  obtain ⟨E, hE⟩ : ∃ E, endL l p = E := ⟨_, rfl⟩
  rw [hE] at hbe hV KE
  have HVV := Lib.hid hV
  obtain ⟨hbe1, hbe2⟩ := hbe
  clear h h4 hs hV hE
  go_enter Tryz.func182, Tryz.ntmps182
  go_wp2
  go_loopw [6, 7] (fun v i wr => ∃ (k : Nat) (out : ByteArray), p + 1 ≤ k ∧ k ≤ E ∧ i = .int .i64 k ∧ v = .string out ∧ out.size ≤ k * 1048576 ∧ textF l (E - k) k out = V ∧ ∃ nd, wr = w.drewN nd) (fun _ i _ => E - (intOf i).toNat)
  case atStart => exact ⟨p + 1, ByteArray.empty, Nat.le_refl _, hbe1, by go_num, rfl, by simp, HVV.out, 0, rfl⟩
  case round =>
    obtain ⟨k, out, hk1, hk2, rfl, rfl, hsz, hf, hw⟩ := hrel
    have HF := Lib.hid hf
    have HW := Lib.hid hw
    have hbw : Below w.heap.size w wr := by obtain ⟨nd, rfl⟩ := hw; exact below_drewN (Below.refl _ _) nd
    have HBW := Lib.hid hbw
    clear hf hw hbw
    by_cases hlt2 : k < E
    · have hi := (H4.out k (by omega)).below HBW.out
      have d1 := hi.c1
      have d3 := hi.c3
      have hst : E - k = (E - (k + 1)) + 1 := by omega
      have HST := Lib.hid hst
      have hts := HS.out k (by omega)
      have HF2 : Hid ((if (l.getD k dIt).name.toList.isEmpty = true then textF l (E - (k + 1)) (k + 1) (out ++ (l.getD k dIt).text) else none) = V) := Lib.hid (by
        have := HF.out; rw [HST.out] at this; exact this)
      have q1 : (k : Int) < (n : Int) := by omega
      clear hi hst
      generalize l.getD k dIt = x at d1 d3 hts HF2
      obtain ⟨xd, xt, xs, xn, xa⟩ := x
      dsimp only at d1 d3 hts HF2
      cases hq : xn.toList.isEmpty
      · have HF3 : Hid (V = none) := Lib.hid (by have := HF2.out; rw [hq, if_neg (by decide)] at this; exact this.symm)
        clear HF2
        go_wp2_with fail
        refine (KE.out _ HBW.out).mono ?_
        rintro e w1 ⟨rfl, nd, rfl⟩
        go_wp2
        go_ret2
        exact ⟨by rw [HF3.out]; rfl, drew_more HW.out _⟩
      · have HF3 : Hid (textF l (E - (k + 1)) (k + 1) (out ++ xt) = V) := Lib.hid (by have := HF2.out; rw [hq, if_pos rfl] at this; exact this)
        clear HF2
        go_wp2_with fail
        refine (KE.out _ HBW.out).mono ?_
        rintro e w1 ⟨rfl, nd, rfl⟩
        go_wp2
        go_roundw
        case rel => exact ⟨k + 1, _, by omega, by omega, by go_num, rfl, by rw [ByteArray.size_append]; omega, HF3.out, drew_more HW.out _⟩
        case measure => simp [intOf]; omega
    · obtain rfl : k = E := by omega
      have HF3 : Hid (V = some out) := Lib.hid (by have := HF.out; rw [Nat.sub_self] at this; exact this.symm)
      go_wp2_with fail
      refine (KE.out _ HBW.out).mono ?_
      rintro e w1 ⟨rfl, nd, rfl⟩
      go_wp2
      go_ret2
      exact ⟨by rw [HF3.out]; rfl, drew_more HW.out _⟩
end Go.Proofs.YticpebpicdboaaaGreatDoor
