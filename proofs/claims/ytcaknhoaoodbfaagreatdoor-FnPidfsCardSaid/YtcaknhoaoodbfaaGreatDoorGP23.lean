/- spec.l4End, l4Value. -/
import Derived.Test.YtcaknhoaoodbfaaGreatDoorGP0
import Derived.Test.YtcaknhoaoodbfaaGreatDoorGP22
import Derived.Test.YtcaknhoaoodbfaaGreatDoorGP7
import Derived.Test.YtcaknhoaoodbfaaGreatDoorGP3
import Derived.Test.YtcaknhoaoodbfaaGreatDoorGP15
import Derived.Test.YtcaknhoaoodbfaaGreatDoorGP14
import Derived.Test.YtcaknhoaoodbfaaGreatDoorGP20
import Derived.Test.YtcaknhoaoodbfaaGreatDoorGP21
namespace Go.Proofs.YtcaknhoaoodbfaaGreatDoor
open Go.ChangeShapes Go.WideShapes Go.ChangeAt Go.RowKit
set_option linter.unusedVariables false
def endF (l : List It) (d : Int) : Nat → Nat → Nat
  | 0, j => j
  | f + 1, j => if d < (l.getD j dIt).depth then endF l d f (j + 1) else j
def endL (l : List It) (a : Nat) : Nat := endF l (l.getD a dIt).depth (l.length - (a + 1)) (a + 1)
theorem endF_ge (l : List It) (d : Int) : ∀ f j, j ≤ endF l d f j ∧ endF l d f j ≤ j + f
  | 0, j => ⟨Nat.le_refl _, Nat.le_refl _⟩
  | f + 1, j => by
    unfold endF
    split
    · have := endF_ge l d f (j + 1); omega
    · omega
theorem endL_bounds {l : List It} {a : Nat} (h : a < l.length) : a + 1 ≤ endL l a ∧ endL l a ≤ l.length := by
  have := endF_ge l (l.getD a dIt).depth (l.length - (a + 1)) (a + 1)
  unfold endL
  omega
theorem endF_in (l : List It) (d : Int) : ∀ f j i, j ≤ i → i < endF l d f j → d < (l.getD i dIt).depth
  | 0, j, i, h1, h2 => by unfold endF at h2; omega
  | f + 1, j, i, h1, h2 => by
    unfold endF at h2
    split at h2
    · rename_i h
      rcases Nat.lt_or_ge j i with h3 | h3
      · exact endF_in l d f (j + 1) i h3 h2
      · obtain rfl : i = j := by omega
        exact h
    · omega
set_option maxRecDepth 100000 in
set_option maxHeartbeats 1600000 in
theorem specEnd_any (a : Option Addr) (n c p : Nat) (l : List It) (w : World) (hp : p < n) (h : ItsAt w a n c l) :
    Calls Tryz.prog 134 #[.slice a n c, .int .i64 p] w fun e w' => e = .returned (.int .i64 ((endL l p : Nat) : Int)) ∧ ∃ n, w' = w.drewN n := by
  have hm := h.max
  have HL := Lib.hid h.len
  obtain ⟨b, o, rfl, h4⟩ := h.row.resolve_left (by omega)
  have H4 := Lib.hid h4
  have e0 := (h4 p hp).c0
  obtain ⟨E, hE⟩ : ∃ E, endL l p = E := ⟨_, rfl⟩
  rw [hE]
  unfold endL at hE
  rw [h.len] at hE
  obtain ⟨d, hd⟩ : ∃ d, (l.getD p dIt).depth = d := ⟨_, rfl⟩
  rw [hd] at hE e0
  have HE := Lib.hid hE
  have q0 : (p : Int) < (n : Int) := by omega
  clear h h4 hE hd
  go_enter Tryz.func134, Tryz.ntmps134
  go_wp2
  go_loopw [5] (fun i wr => ∃ k : Nat, p + 1 ≤ k ∧ k ≤ n ∧ i = .int .i64 k ∧ endF l d (n - k) k = E ∧ ∃ nd, wr = w.drewN nd) (fun i _ => n - (intOf i).toNat)
  case atStart => exact ⟨p + 1, Nat.le_refl _, by omega, by go_num, HE.out, 0, rfl⟩
  case round =>
    obtain ⟨k, hk1, hk, rfl, hk2, hw⟩ := hrel
    have HW := Lib.hid hw
    have HK := Lib.hid hk2
    clear hw hk2
    by_cases hlt : k < n
    · have hbw : Below w.heap.size w wr := by obtain ⟨nd, rfl⟩ := HW.out; exact below_drewN (Below.refl _ _) nd
      have d0 := ((H4.out k hlt).below hbw).c0
      have e1 := (hbw.cell (p := ⟨b, o + p * 5, none⟩) (H4.out p hp).lt).trans e0
      clear hbw
      have hst : n - k = (n - (k + 1)) + 1 := by omega
      have HST := Lib.hid hst
      clear hst
      have q1 : decide ((k : Int) < (n : Int)) = true := by rw [decide_eq_true_iff]; omega
      have q2 : (k : Int) < (n : Int) := by omega
      obtain ⟨x, hx⟩ : ∃ x, (l.getD k dIt).depth = x := ⟨_, rfl⟩
      rw [hx] at d0
      by_cases hdx : d < x
      · have HK2 : Hid (endF l d (n - (k + 1)) (k + 1) = E) := Lib.hid (by
          have := HK.out; rw [HST.out] at this; unfold endF at this; rw [hx, if_pos hdx] at this; exact this)
        have q3 : decide (d < x) = true := by simpa using hdx
        clear hx
        go_wp2_with fail
        go_quiet (fail)
        go_wp2
        go_roundw
        case rel => exact ⟨k + 1, by omega, by omega, by go_num, HK2.out, drew_more HW.out _⟩
        case measure => simp [intOf]; omega
      · have HK2 : Hid (k = E) := Lib.hid (by
          have := HK.out; rw [HST.out] at this; unfold endF at this; rw [hx, if_neg hdx] at this; exact this)
        have q3 : decide (d < x) = false := by simpa using hdx
        clear hx
        go_wp2_with fail
        go_quiet (fail)
        go_wp2
        go_ret
        exact ⟨ret_n HK2.out, drew_more HW.out _⟩
    · obtain rfl : k = n := by omega
      have HK2 : Hid (k = E) := Lib.hid (by have := HK.out; rw [Nat.sub_self] at this; exact this)
      have q1 : decide ((k : Int) < (k : Int)) = false := by rw [decide_eq_false_iff_not]; omega
      go_wp2_with fail
      go_quiet (fail)
      go_wp2
      go_ret
      exact ⟨ret_n HK2.out, drew_more HW.out _⟩
def valueL (l : List At) (name : ByteArray) : Option ByteArray := (l.find? fun x => x.name.toList == name.toList).map (·.value)
def valT (v : Option ByteArray) : ByteArray := match v with | some t => t | none => ByteArray.empty
theorem valueL_at {l : List At} {name : ByteArray} {k : Nat} (hk : k < l.length) (h0 : ∀ j, j < k → ((l.getD j dAt).name.toList == name.toList) = false) (h1 : ((l.getD k dAt).name.toList == name.toList) = true) : valueL l name = some (l.getD k dAt).value := by
  unfold valueL
  rw [find_at l dAt _ k hk h0 h1]; rfl
theorem valueL_no {l : List At} {name : ByteArray} (h0 : ∀ j, j < l.length → ((l.getD j dAt).name.toList == name.toList) = false) : valueL l name = none := by
  unfold valueL
  rw [find_no l dAt _ h0]; rfl
set_option maxRecDepth 100000 in
set_option maxHeartbeats 1600000 in
theorem specValue_any (b o : Nat) (x : It) (name : ByteArray) (w : World) (h : ItAt w b o x) :
    Calls Tryz.prog 155 #[.pointer (some ⟨b, o, none⟩), .string name] w fun e w' => e = .returned (.tuple #[.string (valT (valueL x.attrs name)), .bool (valueL x.attrs name).isSome]) ∧ w' = w := by
  obtain ⟨a4, n, c4, d4, hat⟩ := h.c4
  have hm := hat.max
  have HR := Lib.hid hat.row
  have HV1 : Hid (∀ k, k < n → (∀ j, j < k → ((x.attrs.getD j dAt).name.toList == name.toList) = false) → ((x.attrs.getD k dAt).name.toList == name.toList) = true → valueL x.attrs name = some (x.attrs.getD k dAt).value) := Lib.hid fun k hk => valueL_at (by have := hat.len; omega)
  have HV2 : Hid ((∀ j, j < n → ((x.attrs.getD j dAt).name.toList == name.toList) = false) → valueL x.attrs name = none) := Lib.hid fun h0 => valueL_no fun j hj => h0 j (by have := hat.len; omega)
  generalize valueL x.attrs name = v at HV1 HV2
  generalize x.attrs = l at HR HV1 HV2
  clear h hat
  go_enter Tryz.func155, Tryz.ntmps155
  go_wp2
  go_loop [12] (fun i => ∃ k : Nat, k ≤ n ∧ i = .int .i64 k ∧ (∀ j, j < k → ((l.getD j dAt).name.toList == name.toList) = false)) (fun i => n - (intOf i).toNat)
  case atStart => exact ⟨0, Nat.zero_le _, rfl, fun j hj => by omega⟩
  case round =>
    obtain ⟨k, hk, rfl, hz⟩ := hrel
    have HZ := Lib.hid hz
    clear hz
    by_cases hlt : k < n
    · obtain ⟨b4, o4, rfl, h3, h4⟩ := HR.out.resolve_left (by omega)
      have d0 := (h4 k hlt).1
      have d1 := (h4 k hlt).2
      have HV3 := Lib.hid (HV1.out k hlt HZ.out)
      have HZ2 : Hid (((l.getD k dAt).name.toList == name.toList) = false → ∀ j, j < k + 1 → ((l.getD j dAt).name.toList == name.toList) = false) := Lib.hid fun e j hj => by
        rcases Nat.lt_or_ge j k with h | h
        · exact HZ.out j h
        · obtain rfl : j = k := by omega
          exact e
      have q0 : (k : Int) < (n : Int) := by omega
      clear h4
      generalize l.getD k dAt = y at d0 d1 HV3 HZ2
      obtain ⟨s, t⟩ := y
      dsimp only at d0 d1 HV3 HZ2
      cases hq : s.toList == name.toList
      · have HZ3 := Lib.hid (HZ2.out hq)
        clear HZ2 HV3
        go_wp2
        go_round
        case rel => exact ⟨k + 1, by omega, by go_num, HZ3.out⟩
        case measure => simp [intOf]; omega
      · have HV4 := Lib.hid (HV3.out hq)
        clear HZ2 HV3
        go_wp2
        go_ret2
        exact ⟨by rw [HV4.out]; rfl, rfl⟩
    · obtain rfl : k = n := by omega
      have HV4 := Lib.hid (HV2.out HZ.out)
      go_wp2
      go_ret2
      exact ⟨by rw [HV4.out]; rfl, rfl⟩
def dp (l : List It) (i : Nat) : Int := (l.getD i dIt).depth
def lastAt (l : List It) (d : Int) : Nat → Option Nat
  | 0 => none
  | m + 1 => if dp l m = d then some m else lastAt l d m
theorem lastAt_is {l : List It} {d : Int} : ∀ {m j : Nat}, lastAt l d m = some j → j < m ∧ dp l j = d ∧ ∀ i, j < i → i < m → dp l i ≠ d
  | m + 1, j, h => by
    unfold lastAt at h
    by_cases e : dp l m = d
    · rw [if_pos e] at h
      cases h
      exact ⟨Nat.lt_succ_self _, e, fun i h1 h2 => by omega⟩
    · rw [if_neg e] at h
      obtain ⟨h1, h2, h3⟩ := lastAt_is h
      refine ⟨by omega, h2, fun i hi hm => ?_⟩
      rcases Nat.lt_or_ge i m with g | g
      · exact h3 i hi g
      · obtain rfl : i = m := by omega
        exact e
structure Rises (l : List It) : Prop where
  some : 1 ≤ l.length
  few : l.length ≤ 40
  first : dp l 0 = 0
  step : ∀ i, 1 ≤ i → i < l.length → 1 ≤ dp l i ∧ dp l i ≤ dp l (i - 1) + 1
  text : ∀ i, 1 ≤ i → i < l.length → (l.getD (i - 1) dIt).name.toList.isEmpty = true → dp l i ≤ dp l (i - 1)
  bd : ∀ i, i < l.length → 0 ≤ dp l i ∧ dp l i ≤ 6
  good : ∀ i, i < l.length → itemCode (l.getD i dIt) = 0
theorem lastAt_ex {l : List It} (h : Rises l) : ∀ (m : Nat), m < l.length → ∀ d : Int, 0 ≤ d → d ≤ dp l m → ∃ j, lastAt l d (m + 1) = some j
  | 0, hm, d, h0, h1 => by
    have hf := h.first
    have h1' : d ≤ dp l 0 := h1
    have e : dp l 0 = d := by omega
    exact ⟨0, by unfold lastAt; exact if_pos e⟩
  | m + 1, hm, d, h0, h1 => by
    by_cases e : dp l (m + 1) = d
    · exact ⟨m + 1, by unfold lastAt; rw [if_pos e]⟩
    · have hs := (h.step (m + 1) (by omega) hm).2
      rw [Nat.add_sub_cancel] at hs
      obtain ⟨j, hj⟩ := lastAt_ex h m (by omega) d h0 (by omega)
      exact ⟨j, by unfold lastAt; rw [if_neg e]; exact hj⟩
def parOf (l : List It) (k : Nat) : Option Nat := lastAt l (dp l k - 1) k
theorem par_ex {l : List It} (h : Rises l) {k : Nat} (h1 : 1 ≤ k) (hk : k < l.length) : ∃ j, parOf l k = some j ∧ j < k ∧ dp l j = dp l k - 1 ∧ ∀ i, j < i → i < k → dp l i ≠ dp l k - 1 := by
  obtain ⟨m, rfl⟩ : ∃ m, k = m + 1 := ⟨k - 1, by omega⟩
  have hs := h.step (m + 1) h1 hk
  rw [Nat.add_sub_cancel] at hs
  obtain ⟨j, hj⟩ := lastAt_ex h m (by omega) (dp l (m + 1) - 1) (by omega) (by omega)
  exact ⟨j, hj, lastAt_is hj⟩
def kidB (l : List It) (j k : Nat) : Bool := decide (0 < dp l k) && decide (parOf l k = some j)
def kidsUp (l : List It) (m j : Nat) : List Nat := (List.range m).filter (kidB l j)
theorem kidsUp_succ (l : List It) (m j : Nat) : kidsUp l (m + 1) j = kidsUp l m j ++ (if kidB l j m = true then [m] else []) := by
  unfold kidsUp
  rw [List.range_succ, List.filter_append]
  cases h : kidB l j m <;> simp [h]
theorem kidsUp_lt {l : List It} {m j k : Nat} (h : k ∈ kidsUp l m j) : k < m := by
  unfold kidsUp at h
  rw [List.mem_filter, List.mem_range] at h
  exact h.1
theorem kidsUp_len (l : List It) (m j : Nat) : (kidsUp l m j).length ≤ m := by
  unfold kidsUp
  have := List.length_filter_le (kidB l j) (List.range m)
  rw [List.length_range] at this
  exact this
theorem kidB_root {l : List It} {m : Nat} (h : dp l m = 0) (j : Nat) : kidB l j m = false := by
  unfold kidB
  rw [decide_eq_false (by omega)]
  rfl
theorem kidB_par {l : List It} {m p : Nat} (h0 : 0 < dp l m) (hp : parOf l m = some p) (j : Nat) : kidB l j m = decide (j = p) := by
  unfold kidB
  rw [decide_eq_true h0, hp]
  by_cases e : j = p
  · rw [e]; simp
  · rw [decide_eq_false e, decide_eq_false (fun h => e (by simpa using h.symm))]
    rfl
theorem rises_of {l : List It} (h : treeCode l = 0) : Rises l := by
  unfold treeCode at h
  split at h
  · omega
  · rename_i h1
    have hgood : ∀ i, i < l.length → itemCode (l.getD i dIt) = 0 := by
      intro i hi
      cases hf : l.find? (fun x => itemCode x != 0) with
      | some y =>
        rw [hf] at h
        have := List.find?_some hf
        rw [bne_iff_ne] at this
        exact absurd h this
      | none =>
        rw [List.find?_eq_none] at hf
        have hm := hf (l.getD i dIt) (by rw [List.getD_eq_getElem?_getD, List.getElem?_eq_getElem hi]; exact List.getElem_mem hi)
        simpa using hm
    rw [find_no l dIt _ fun j hj => by simp only [hgood j hj]; decide] at h
    have hs : stands l = true := by
      cases e : stands l
      · rw [e] at h; simp at h
      · rfl
    unfold stands at hs
    simp only [Bool.and_eq_true, List.all_eq_true, decide_eq_true_eq] at hs
    obtain ⟨⟨hd, _⟩, hall⟩ := hs
    have hst : ∀ i, 1 ≤ i → i < l.length → mayStand (l.getD (i - 1) dIt) (l.getD i dIt) = true := fun i hi hl => by
      have := hall i (List.mem_range.2 hl)
      rw [Bool.or_eq_true, beq_iff_eq] at this
      rcases this with g | g
      · omega
      · exact g
    have key : ∀ i, 1 ≤ i → i < l.length → dp l i ≠ 0 ∧ dp l i ≤ dp l (i - 1) + 1 ∧ ((l.getD (i - 1) dIt).name.toList.isEmpty = true → dp l i ≤ dp l (i - 1)) := fun i hi hl => by
      have := hst i hi hl
      unfold mayStand standB at this
      rw [Bool.not_eq_true', Bool.or_eq_false_iff, Bool.or_eq_false_iff, Bool.or_eq_false_iff] at this
      obtain ⟨⟨⟨g1, g2⟩, g3⟩, _⟩ := this
      rw [beq_eq_false_iff_ne] at g1
      rw [decide_eq_false_iff_not] at g2
      refine ⟨g1, by unfold dp; omega, fun e => ?_⟩
      rw [e, Bool.and_true, decide_eq_false_iff_not] at g3
      unfold dp
      omega
    have hb : ∀ i, i < l.length → 0 ≤ dp l i ∧ dp l i ≤ 6 := fun i hi => item_depth (hgood i hi)
    exact ⟨by omega, by omega, hd, fun i hi hl => ⟨by have := (key i hi hl).1; have := (hb i hl).1; omega, (key i hi hl).2.1⟩, fun i hi hl => (key i hi hl).2.2, hb, hgood⟩
def kidsTo (l : List It) (d : Int) (a e : Nat) : List Int := ((List.range' (a + 1) (e - (a + 1))).filter fun i => (l.getD i dIt).depth == d + 1).map fun i => ((i : Nat) : Int)
def kidsL (l : List It) (a : Nat) : List Int := kidsTo l (l.getD a dIt).depth a (endL l a)
theorem i64InfoK : (Tryz.prog.info? 2).map (fun i => (i.zero, i.size, i.bytes)) = some (some (.int .i64 0), 1, 8) := by kernel_rfl
def textF (l : List It) : Nat → Nat → ByteArray → Option ByteArray
  | 0, _, out => some out
  | f + 1, j, out => if (l.getD j dIt).name.toList.isEmpty = true then textF l f (j + 1) (out ++ (l.getD j dIt).text) else none
def textL (l : List It) (a : Nat) : Option ByteArray := textF l (endL l a - (a + 1)) (a + 1) ByteArray.empty
def txtT (v : Option ByteArray) : ByteArray := match v with | some t => t | none => ByteArray.empty
set_option maxRecDepth 100000 in
set_option maxHeartbeats 3200000 in
theorem specText_any (a : Option Addr) (n c p : Nat) (l : List It) (w : World) (hn : n ≤ 1048576) (hs : ∀ i, i < n → (l.getD i dIt).text.size ≤ 1048576) (hp : p < n) (h : ItsAt w a n c l) :
    Calls Tryz.prog 156 #[.slice a n c, .int .i64 p] w fun e w' => e = .returned (.tuple #[.string (txtT (textL l p)), .bool (textL l p).isSome]) ∧ ∃ n, w' = w.drewN n := by
  obtain ⟨b, o, rfl, h4⟩ := h.row.resolve_left (by omega)
  have H4 := Lib.hid h4
  have HS := Lib.hid hs
  have hbe := endL_bounds (l := l) (a := p) (by rw [h.len]; exact hp)
  rw [h.len] at hbe
  obtain ⟨V, hV⟩ : ∃ V, textL l p = V := ⟨_, rfl⟩
  rw [hV]
  unfold textL at hV
  have KE := Lib.hid (fun W (hb : Below w.heap.size w W) => specEnd_any (some ⟨b, o, none⟩) n c p l W hp (h.below hb))
  obtain ⟨E, hE⟩ : ∃ E, endL l p = E := ⟨_, rfl⟩
  rw [hE] at hbe hV KE
  have HVV := Lib.hid hV
  obtain ⟨hbe1, hbe2⟩ := hbe
  clear h h4 hs hV hE
  go_enter Tryz.func156, Tryz.ntmps156
  go_wp2
  go_loopw [6, 7] (fun v i wr => ∃ (k : Nat) (out : ByteArray), p + 1 ≤ k ∧ k ≤ E ∧ i = .int .i64 k ∧ v = .string out ∧ out.size ≤ k * 1048576 ∧ textF l (E - k) k out = V ∧ ∃ nd, wr = w.drewN nd) (fun _ i _ => E - (intOf i).toNat)
  case atStart => exact ⟨p + 1, ByteArray.empty, Nat.le_refl _, hbe1, by go_num, rfl, by simp, HVV.out, 0, rfl⟩
  case round =>
    obtain ⟨k, out, hk1, hk2, rfl, rfl, hsz, hf, hw⟩ := hrel
    have HF := Lib.hid hf
    have HW := Lib.hid hw
    have hbw : Below w.heap.size w wr := by obtain ⟨nd, rfl⟩ := hw; exact below_drewN (Below.refl _ _) nd
    have HBW := Lib.hid hbw
    clear hf hw hbw
    by_cases hlt2 : k < E
    · have hi := (H4.out k (by omega)).below HBW.out
      have d1 := hi.c1
      have d3 := hi.c3
      have hst : E - k = (E - (k + 1)) + 1 := by omega
      have HST := Lib.hid hst
      have hts := HS.out k (by omega)
      have HF2 : Hid ((if (l.getD k dIt).name.toList.isEmpty = true then textF l (E - (k + 1)) (k + 1) (out ++ (l.getD k dIt).text) else none) = V) := Lib.hid (by
        have := HF.out; rw [HST.out] at this; exact this)
      have q1 : (k : Int) < (n : Int) := by omega
      clear hi hst
      generalize l.getD k dIt = x at d1 d3 hts HF2
      obtain ⟨xd, xt, xs, xn, xa⟩ := x
      dsimp only at d1 d3 hts HF2
      cases hq : xn.toList.isEmpty
      · have HF3 : Hid (V = none) := Lib.hid (by have := HF2.out; rw [hq, if_neg (by decide)] at this; exact this.symm)
        clear HF2
        go_wp2_with fail
        refine (KE.out _ HBW.out).mono ?_
        rintro e w1 ⟨rfl, nd, rfl⟩
        go_wp2
        go_ret2
        exact ⟨by rw [HF3.out]; rfl, drew_more HW.out _⟩
      · have HF3 : Hid (textF l (E - (k + 1)) (k + 1) (out ++ xt) = V) := Lib.hid (by have := HF2.out; rw [hq, if_pos rfl] at this; exact this)
        clear HF2
        go_wp2_with fail
        refine (KE.out _ HBW.out).mono ?_
        rintro e w1 ⟨rfl, nd, rfl⟩
        go_wp2
        go_roundw
        case rel => exact ⟨k + 1, _, by omega, by omega, by go_num, rfl, by rw [ByteArray.size_append]; omega, HF3.out, drew_more HW.out _⟩
        case measure => simp [intOf]; omega
    · obtain rfl : k = E := by omega
      have HF3 : Hid (V = some out) := Lib.hid (by have := HF.out; rw [Nat.sub_self] at this; exact this.symm)
      go_wp2_with fail
      refine (KE.out _ HBW.out).mono ?_
      rintro e w1 ⟨rfl, nd, rfl⟩
      go_wp2
      go_ret2
      exact ⟨by rw [HF3.out]; rfl, drew_more HW.out _⟩
theorem endF_out (l : List It) (d : Int) : ∀ f j, endF l d f j = j + f ∨ ¬ d < (l.getD (endF l d f j) dIt).depth
  | 0, j => .inl rfl
  | f + 1, j => by
    by_cases h : d < (l.getD j dIt).depth
    · have e : endF l d (f + 1) j = endF l d f (j + 1) := by
        rw [endF, if_pos h]
      rw [e]
      rcases endF_out l d f (j + 1) with h1 | h1
      · left; omega
      · exact .inr h1
    · have e : endF l d (f + 1) j = j := by
        rw [endF, if_neg h]
      rw [e]
      exact .inr h
theorem endL_out {l : List It} {a : Nat} (h : a < l.length) : endL l a = l.length ∨ dp l (endL l a) ≤ dp l a := by
  rcases endF_out l (l.getD a dIt).depth (l.length - (a + 1)) (a + 1) with h1 | h1
  · left
    unfold endL
    omega
  · right
    unfold dp endL
    omega
theorem endL_in {l : List It} {a i : Nat} (h1 : a < i) (h2 : i < endL l a) : dp l a < dp l i := endF_in l _ _ _ i h1 h2
theorem lastAt_of {l : List It} {d : Int} {a : Nat} (hd : dp l a = d) : ∀ {m : Nat}, a < m → (∀ i, a < i → i < m → dp l i ≠ d) → lastAt l d m = some a
  | m + 1, hm, hn => by
    unfold lastAt
    by_cases e : a = m
    · subst e
      rw [if_pos hd]
    · rw [if_neg (hn m (by omega) (by omega))]
      exact lastAt_of hd (by omega) fun i h1 h2 => hn i h1 (by omega)
theorem low_till {l : List It} (h : Rises l) {E k : Nat} {d : Int} (hk : k < l.length) (hE : dp l E < d) (hne : ∀ i, E < i → i < k → dp l i ≠ d) : ∀ m, E + m < k → dp l (E + m) < d
  | 0, _ => hE
  | m + 1, hm => by
    have h1 := low_till h hk hE hne m (by omega)
    have h2 := (h.step (E + (m + 1)) (by omega) (by omega)).2
    rw [show E + (m + 1) - 1 = E + m from by omega] at h2
    have h3 := hne (E + (m + 1)) (by omega) hm
    omega
theorem kid_iff {l : List It} (h : Rises l) {a k : Nat} (ha : a < l.length) (hk : k < l.length) : kidB l a k = true ↔ a < k ∧ k < endL l a ∧ dp l k = dp l a + 1 := by
  have hb := endL_bounds ha
  unfold kidB
  rw [Bool.and_eq_true, decide_eq_true_iff, decide_eq_true_iff]
  constructor
  · rintro ⟨h0, hp⟩
    obtain ⟨h1, h2, h3⟩ := lastAt_is hp
    refine ⟨h1, ?_, by omega⟩
    refine Nat.lt_of_not_le fun hle => ?_
    rcases endL_out ha with h4 | h4
    · omega
    · rcases Nat.lt_or_ge (endL l a) k with g | g
      · have h5 := h3 (endL l a) (by omega) g
        have h6 : dp l (endL l a) < dp l a := by omega
        have h7 := low_till h hk h6 (fun i g1 g2 => by have := h3 i (by omega) g2; omega) (k - 1 - endL l a) (by omega)
        rw [show endL l a + (k - 1 - endL l a) = k - 1 from by omega] at h7
        have h8 := (h.step k (by omega) hk).2
        omega
      · have e : endL l a = k := by omega
        rw [e] at h4
        omega
  · rintro ⟨h1, h2, h3⟩
    refine ⟨by have := (h.bd a ha).1; omega, ?_⟩
    unfold parOf
    exact lastAt_of (by omega) h1 fun i g1 g2 => by have := endL_in g1 (show i < endL l a by omega); omega
theorem kids_same {l : List It} (h : Rises l) {a : Nat} (ha : a < l.length) : (kidsUp l l.length a).map (fun j => ((j : Nat) : Int)) = kidsL l a := by
  have hb := endL_bounds ha
  unfold kidsL kidsTo kidsUp
  congr 1
  have e : List.range l.length = List.range' 0 (a + 1) ++ (List.range' (a + 1) (endL l a - (a + 1)) ++ List.range' (endL l a) (l.length - endL l a)) := by
    have e1 := List.range'_append (s := a + 1) (m := endL l a - (a + 1)) (n := l.length - endL l a) (step := 1)
    have e2 := List.range'_append (s := 0) (m := a + 1) (n := l.length - (a + 1)) (step := 1)
    rw [show a + 1 + 1 * (endL l a - (a + 1)) = endL l a from by omega, show endL l a - (a + 1) + (l.length - endL l a) = l.length - (a + 1) from by omega] at e1
    rw [show 0 + 1 * (a + 1) = a + 1 from by omega, show a + 1 + (l.length - (a + 1)) = l.length from by omega] at e2
    rw [e1, e2, List.range_eq_range']
  rw [e, List.filter_append, List.filter_append]
  have f1 : (List.range' 0 (a + 1)).filter (kidB l a) = [] := by
    rw [List.filter_eq_nil_iff]
    intro k hk
    rw [List.mem_range'_1] at hk
    intro hkb
    have := (kid_iff h ha (by omega)).1 hkb
    omega
  have f3 : (List.range' (endL l a) (l.length - endL l a)).filter (kidB l a) = [] := by
    rw [List.filter_eq_nil_iff]
    intro k hk
    rw [List.mem_range'_1] at hk
    intro hkb
    have := (kid_iff h ha (by omega)).1 hkb
    omega
  rw [f1, f3, List.nil_append, List.append_nil]
  apply List.filter_congr
  intro k hk
  rw [List.mem_range'_1] at hk
  have hi := kid_iff h ha (k := k) (by omega)
  have hd : ((l.getD k dIt).depth == (l.getD a dIt).depth + 1) = decide (dp l k = dp l a + 1) := by
    unfold dp
    rw [Bool.eq_iff_iff, beq_iff_eq, decide_eq_true_iff]
  rw [hd, Bool.eq_iff_iff, hi, decide_eq_true_iff]
  constructor
  · rintro ⟨_, _, h3⟩
    exact h3
  · intro h3
    exact ⟨by omega, by omega, h3⟩
theorem kids_stop {l : List It} {a x : Nat} : ∀ (m : Nat), (∀ i, x ≤ i → i < x + m → kidB l a i = false) → kidsUp l (x + m) a = kidsUp l x a
  | 0, _ => rfl
  | m + 1, hn => by
    rw [show x + (m + 1) = (x + m) + 1 from by omega, kidsUp_succ, if_neg (by rw [hn (x + m) (by omega) (by omega)]; simp), List.append_nil]
    exact kids_stop m (fun i g1 g2 => hn i g1 (by omega))
theorem kids_zero {l : List It} (h : Rises l) {a : Nat} (ha : a < l.length) : kidsUp l (a + 1) a = [] := by
  have hn : ∀ i, 0 ≤ i → i < 0 + (a + 1) → kidB l a i = false := fun i _ hi => by
    rw [← Bool.not_eq_true]
    intro hk
    have := (kid_iff h ha (k := i) (by omega)).1 hk
    omega
  have := kids_stop (a + 1) hn
  rw [Nat.zero_add] at this
  rw [this]
  rfl
theorem kids_all {l : List It} (h : Rises l) {a : Nat} (ha : a < l.length) : kidsUp l l.length a = kidsUp l (endL l a) a := by
  have hb := endL_bounds ha
  have := kids_stop (l := l) (a := a) (x := endL l a) (l.length - endL l a) (fun i g1 g2 => by
    rw [← Bool.not_eq_true]
    intro hk
    have := (kid_iff h ha (k := i) (by omega)).1 hk
    omega)
  rwa [show endL l a + (l.length - endL l a) = l.length from by omega] at this
def LaidSt (l : List It) (k j x : Nat) : Prop := j = (kidsUp l x k).length ∧ k + 1 ≤ x ∧ x ≤ endL l k ∧ (x = endL l k ∨ kidB l k x = true)
def hasIx (ts : List ByteArray) (t : ByteArray) : Int := if ts.findIdx (fun x => x.toList == t.toList) < ts.length then (ts.findIdx (fun x => x.toList == t.toList) : Int) else -1
def addT (ts : List ByteArray) (t : ByteArray) : List ByteArray := if 0 ≤ hasIx ts t then ts else ts ++ [t]
def dPr : Pr := ⟨0, ByteArray.empty, ByteArray.empty, 0, ByteArray.empty, 0, []⟩
def rootOne (x : At) (p : Pr) : Option Pr :=
  if x.name.toList = fromT.toList then some { p with sender := x.value }
  else if x.name.toList = toT.toList then some { p with goal := x.value }
  else if x.name.toList = typeT.toList then (if hasIx kindWs x.value < 1 then none else some { p with kind := hasIx kindWs x.value })
  else none
def rootF (l : List At) : Nat → Nat → Pr → Option Pr
  | 0, _, p => some p
  | f + 1, i, p => match rootOne (l.getD i dAt) p with | some q => rootF l f (i + 1) q | none => none
def rootP (x : It) (p : Pr) : Option Pr :=
  if x.name.toList = prT.toList ∧ x.space.toList = csL then rootF x.attrs x.attrs.length 0 p else none
def partP (l : List It) (i : Nat) (p : Pr) : Option Pr :=
  match textL l i with
  | none => none
  | some t =>
    if (l.getD i dIt).attrs.length ≠ 0 then none
    else if (l.getD i dIt).name.toList = showNm.toList then (if hasIx showWs t < 1 then none else some { p with shown := hasIx showWs t })
    else if (l.getD i dIt).name.toList = statusNm.toList then some { p with status := t }
    else if (l.getD i dIt).name.toList = prioNm.toList then (match numOf t.toList with | some n => some { p with prio := n } | none => none)
    else none
def kidOne (l : List It) (i : Nat) (s : List ByteArray × Pr) : Option (List ByteArray × Pr) :=
  if (l.getD i dIt).name.toList.isEmpty then none
  else if (l.getD i dIt).space.toList ≠ csL then some (s.1, { s.2 with more := s.2.more ++ movedTo l i (endL l i) (-1) })
  else if 0 ≤ hasIx s.1 (l.getD i dIt).name then none
  else match partP l i s.2 with | some q => some (s.1 ++ [(l.getD i dIt).name], q) | none => none
def kidsF (l : List It) (ks : List Int) : Nat → Nat → List ByteArray × Pr → Option Pr
  | 0, _, s => some s.2
  | f + 1, j, s => match kidOne l (ks.getD j 0).toNat s with | some t => kidsF l ks f (j + 1) t | none => none
def readP (l : List It) : Option Pr := match rootP (l.getD 0 dIt) dPr with | some p => kidsF l (kidsL l 0) (kidsL l 0).length 0 ([], p) | none => none
def actWs : List ByteArray := [⟨#[]⟩, awayNm, ⟨#[]⟩, busyNm]
def basicWs : List ByteArray := [openT, closedT]
def behind5 (s : ByteArray) : ByteArray := if 5 < s.size then s.extract 5 s.size else ⟨#[]⟩
def digits8 (s : ByteArray) : Int := numberL 10 4 (s.data.toList.take 1 ++ s.data.toList.drop 2)
def read8 (s : ByteArray) : Int := if s.size = 5 ∧ s.data.toList.getD 1 0 = 46 then (if inB (digits8 s) 0 1000 then digits8 s else -1) else -1
def stepM (l : List It) (i : Nat) (p : Pr) : Pr :=
  if (l.getD i dIt).name = basicNm then (if txtT (textL l i) = closedT then { p with kind := 1 } else p)
  else if (l.getD i dIt).name = awayNm then { p with shown := 1 }
  else if (l.getD i dIt).name = busyNm then { p with shown := 3 }
  else if (l.getD i dIt).name = noteNm then { p with status := txtT (textL l i) }
  else if (l.getD i dIt).name = contNm then { p with prio := prioVal (read8 (valT (valueL (l.getD i dIt).attrs prioKey))) }
  else p
def startM (l : List It) : Pr := { dPr with sender := behind5 (valT (valueL (l.getD 0 dIt).attrs entityNm)) }
def upM (l : List It) : Nat → Pr
  | 0 => startM l
  | k + 1 => stepM l k (upM l k)
def guessM (l : List It) : Pr := upM l l.length
def off5 (s : ByteArray) : ByteArray := ⟨(Lib.trimPrefix s.data.toList presP.data.toList).toArray⟩
def showIx (l : List It) (i : Nat) : Int := match (kidsUp l l.length i).find? (fun k => decide (0 ≤ hasIx actWs (l.getD k dIt).name)) with | some k => hasIx actWs (l.getD k dIt).name | none => 0
def stepP (l : List It) (i : Nat) (p : Pr) : Pr :=
  if (l.getD i dIt).name = basicNm then { p with kind := hasIx basicWs (txtT (textL l i)) }
  else if (l.getD i dIt).name = actNm then { p with shown := showIx l i }
  else if (l.getD i dIt).name = contNm then { p with prio := prioWith (valT (valueL (l.getD i dIt).attrs prioKey)) }
  else if (l.getD i dIt).name = noteNm then { p with status := txtT (textL l i) }
  else p
def startP (l : List It) : Pr := { dPr with sender := off5 (valT (valueL (l.getD 0 dIt).attrs entityNm)) }
def upP (l : List It) : Nat → Pr
  | 0 => startP l
  | k + 1 => stepP l k (upP l k)
def isNote (l : List It) (i : Nat) : Bool := decide ((l.getD i dIt).name = noteNm)
def stopP (l : List It) : Nat := min ((List.range l.length).findIdx (isNote l) + 1) l.length
def guessP (l : List It) : Pr := upP l (stopP l)
theorem guessP_note {l : List It} {k : Nat} (hk : k < l.length) (h0 : ∀ j, j < k → isNote l j = false) (h1 : isNote l k = true) : guessP l = upP l (k + 1) := by
  have e : (List.range l.length).findIdx (isNote l) = k := by
    rw [List.findIdx_eq (by simpa using hk)]
    refine ⟨by simpa using h1, fun j hj => by simpa using h0 j hj⟩
  unfold guessP stopP
  rw [e, Nat.min_eq_left (by omega)]
theorem guessP_none {l : List It} (h0 : ∀ j, j < l.length → isNote l j = false) : guessP l = upP l l.length := by
  have e : (List.range l.length).findIdx (isNote l) = l.length := by
    have := List.findIdx_eq_length (p := isNote l) (xs := List.range l.length)
    rw [List.length_range] at this
    exact this.2 fun x hx => h0 x (List.mem_range.1 hx)
  unfold guessP stopP
  rw [e, Nat.min_eq_right (by omega)]
theorem end_one {l : List It} {i : Nat} (h1 : i + 1 < l.length) (hd : dp l (i + 1) = dp l i + 1) (h2 : i + 2 = l.length ∨ dp l (i + 2) ≤ dp l i) : endL l i = i + 2 := by
  unfold endL
  unfold dp at hd h2
  obtain ⟨f, hf⟩ : ∃ f, l.length - (i + 1) = f + 1 := ⟨l.length - (i + 1) - 1, by omega⟩
  rw [hf]
  unfold endF
  rw [if_pos (by omega)]
  cases f with
  | zero => rfl
  | succ f =>
    unfold endF
    rw [show i + 1 + 1 = i + 2 from rfl, if_neg (by omega)]
theorem text_one {l : List It} {i : Nat} (h1 : i + 1 < l.length) (hd : dp l (i + 1) = dp l i + 1) (h2 : i + 2 = l.length ∨ dp l (i + 2) ≤ dp l i) (hn : (l.getD (i + 1) dIt).name = ⟨#[]⟩) : txtT (textL l i) = (l.getD (i + 1) dIt).text := by
  have he : (⟨#[]⟩ : ByteArray).toList.isEmpty = true := by rw [ByteArray.toList_eq]; rfl
  unfold textL
  rw [end_one h1 hd h2, show i + 2 - (i + 1) = 0 + 1 by omega, textF, hn, if_pos he, textF]
  show ByteArray.empty ++ _ = _
  apply ByteArray.ext
  simp
theorem kids_one {l : List It} (hR : Rises l) {i : Nat} (h1 : i + 1 < l.length) (hd : dp l (i + 1) = dp l i + 1) (h2 : i + 2 = l.length ∨ dp l (i + 2) ≤ dp l i) : kidsUp l l.length i = [i + 1] := by
  have he := end_one h1 hd h2
  have hk : kidB l i (i + 1) = true := (kid_iff hR (by omega) h1).2 ⟨by omega, by omega, hd⟩
  rw [kids_all hR (by omega), he, show i + 2 = (i + 1) + 1 from rfl, kidsUp_succ, if_pos hk, kids_zero hR (by omega)]
  rfl
structure OwnPr (p : Pr) : Prop where
  kd : p.kind = 0 ∨ p.kind = 1
  sh : p.shown = 0 ∨ p.shown = 1 ∨ p.shown = 3
  pr : 0 ≤ p.prio ∧ p.prio ≤ 127
  gl : p.goal = ByteArray.empty
  mo : p.more = []
  sz : 0 < p.sender.size
end Go.Proofs.YtcaknhoaoodbfaaGreatDoor
