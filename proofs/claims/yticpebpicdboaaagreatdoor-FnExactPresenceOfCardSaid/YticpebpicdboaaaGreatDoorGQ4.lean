/- spec.l4Kids, spec.l4Text. -/
import Derived.Test.YticpebpicdboaaaGreatDoorGQ3
import Derived.Test.YticpebpicdboaaaGreatDoorGQ1
namespace Go.Proofs.YticpebpicdboaaaGreatDoor
open Go.ChangeShapes Go.WideShapes Go.ChangeAt Go.RowKit
set_option linter.unusedVariables false

/-- the places behind a, up to e, whose Depth is d + 1 -/
def kidsTo (l : List It) (d : Int) (a e : Nat) : List Int := ((List.range' (a + 1) (e - (a + 1))).filter fun i => (l.getD i dIt).depth == d + 1).map fun i => ((i : Nat) : Int)
def kidsL (l : List It) (a : Nat) : List Int := kidsTo l (l.getD a dIt).depth a (endL l a)
theorem kidsTo_start (l : List It) (d : Int) (a : Nat) : kidsTo l d a (a + 1) = [] := by simp [kidsTo]
theorem kidsTo_step (l : List It) (d : Int) {a k : Nat} (h : a + 1 ≤ k) : kidsTo l d a (k + 1) = kidsTo l d a k ++ (if (l.getD k dIt).depth == d + 1 then [(k : Int)] else []) := by
  unfold kidsTo
  rw [show k + 1 - (a + 1) = (k - (a + 1)) + 1 by omega, List.range'_1_concat, List.filter_append, List.map_append, show a + 1 + (k - (a + 1)) = k by omega]
  congr 1
  simp only [List.filter_cons, List.filter_nil]
  split <;> simp
theorem kidsTo_length (l : List It) (d : Int) (a e : Nat) : (kidsTo l d a e).length ≤ e - (a + 1) := by
  unfold kidsTo
  rw [List.length_map]
  have := List.length_filter_le (fun i => (l.getD i dIt).depth == d + 1) (List.range' (a + 1) (e - (a + 1)))
  rw [List.length_range'] at this
  exact this
theorem i64Info : (Tryz.prog.info? 2).map (fun i => (i.zero, i.size, i.bytes)) = some (some (.int .i64 0), 1, 8) := by kernel_rfl

set_option maxRecDepth 100000 in
set_option maxHeartbeats 3200000 in
theorem specKids_any (a : Option Addr) (n c p : Nat) (l : List It) (w : World) (hn : n ≤ 1048576) (hd : ∀ i, i < n → -1000 ≤ (l.getD i dIt).depth ∧ (l.getD i dIt).depth ≤ 1000) (hp : p < n) (h : ItsAt w a n c l) :
    Calls Tryz.prog 159 #[.slice a n c, .int .i64 p] w (OwnsRes w 2 .i64 (kidsL l p)) := by
  obtain ⟨i0, hi, hz0, hz1, hz2⟩ := info_parts i64Info
  obtain ⟨b, o, rfl, h4⟩ := h.row.resolve_left (by omega)
  have H4 := Lib.hid h4
  have HD := Lib.hid hd
  have H := Lib.hid h
  have hbe := endL_bounds (l := l) (a := p) (by rw [h.len]; exact hp)
  rw [h.len] at hbe
  have hlt := (h4 p hp).lt
  obtain ⟨dp, hdp⟩ : ∃ dp, (l.getD p dIt).depth = dp := ⟨_, rfl⟩
  have hdp2 := hd p hp
  rw [hdp] at hdp2
  have e0 := (h4 p hp).c0
  rw [hdp] at e0
  obtain ⟨L, hL⟩ : ∃ L, kidsL l p = L := ⟨_, rfl⟩
  rw [hL]
  unfold kidsL at hL
  rw [hdp] at hL
  have KE := Lib.hid (fun W (hb : Below w.heap.size w W) => specEnd_any (some ⟨b, o, none⟩) n c p l W hp (h.below hb))
  obtain ⟨E, hE⟩ : ∃ E, endL l p = E := ⟨_, rfl⟩
  rw [hE] at hbe hL KE
  have HLL := Lib.hid hL
  have q0 : (p : Int) < (n : Int) := by omega
  obtain ⟨hbe1, hbe2⟩ := hbe
  clear h h4 hd hL hE hdp
  go_enter Tryz.func159, Tryz.ntmps159
  go_wp2
  go_loopw [5, 6] (fun v i wr => ∃ (k : Nat) (av : Option Addr) (nv cv : Nat), p + 1 ≤ k ∧ k ≤ E ∧ i = .int .i64 k ∧ v = .slice av nv cv ∧ wr.ownsRow w.heap.size 2 1 (.slice av nv cv) nv ((kidsTo l dp p k).map (Value.int .i64)) ∧ Below w.heap.size w wr) (fun _ i _ => E - (intOf i).toNat)
  case atStart =>
    refine ⟨p + 1, some ⟨w.heap.size, 0, none⟩, 0, 0, Nat.le_refl _, hbe1, by go_num, rfl, ?_, below1 _ _⟩
    rw [kidsTo_start]
    exact lit_owns w _ .i64 [] 0 rfl (by decide)
  case round =>
    obtain ⟨k, av, nv, cv, hk1, hk2, rfl, rfl, ho, hb⟩ := hrel
    have HO := Lib.hid ho
    have HB := Lib.hid hb
    have hnv : nv ≤ 1048576 := by
      have h1 := owns_length ho
      have h2 := kidsTo_length l dp p k
      omega
    clear ho hb
    by_cases hlt2 : k < E
    · go_wp2_with fail
      refine (KE.out _ HB.out).mono ?_
      rintro e w1 ⟨rfl, nd, rfl⟩
      have HB1 := Lib.hid (below_drewN HB.out nd)
      have d0 := ((H4.out k (by omega)).below HB.out).c0
      have e1 := (HB.out.cell (p := ⟨b, o + p * 5, none⟩) (by exact hlt)).trans e0
      have HOd := Lib.hid (fun m => owns_below HO.out (below_drewN (Below.refl _ wr) m))
      have HBd := Lib.hid (fun m => below_drewN HB.out m)
      have hdk := HD.out k (by omega)
      have q1 : (k : Int) < (n : Int) := by omega
      have HST := Lib.hid (kidsTo_step l dp hk1)
      have hw1 : IntKind.i64.wrap (dp + 1) = dp + 1 := IntWalk.i64_in _ (by omega)
      generalize (l.getD k dIt).depth = x at d0 HST hdk
      cases hq : x == dp + 1
      · have HST2 : Hid (kidsTo l dp p (k + 1) = kidsTo l dp p k) := Lib.hid (by rw [HST.out, hq]; simp)
        clear HST
        go_wp2_with fail
        go_quiet (fail)
        go_wp2
        go_roundw
        case rel => exact ⟨k + 1, av, nv, cv, by omega, by omega, by go_num, rfl, by rw [HST2.out]; exact HOd.out _, HBd.out _⟩
        case measure => simp [intOf]; omega
      · have HST2 : Hid (kidsTo l dp p (k + 1) = kidsTo l dp p k ++ [(k : Int)]) := Lib.hid (by rw [HST.out, hq]; simp)
        clear HST
        go_wp2_with fail
        go_quiet (fail)
        go_wp2_with (at_builtin; refine wpList_append_own _ rfl _ _ 170 rfl w.heap.size 2 i0 (.int .i64 0) 1 8 Tryz.underlying170 hi hz0 hz1 hz2 rfl (by decide) _ _ _ rfl ((HOd.out _).alloc _) ⟨wr.heap.size, 0, none⟩ 1 1 [.int .i64 (k : Int)] rfl rfl ?c1 ?c2 ?c3 ?c4 ?c5 ?_)
        case c1 =>
          intro j v hj
          match j, hj with
          | 0, hj =>
            simp at hj
            subst hj
            rw [show (⟨wr.heap.size, 0, none⟩ : Addr) = ⟨(wr.drewN (nd + nq)).heap.size, 0, none⟩ from rfl, Addr.add_lit]
            generalize wr.drewN (nd + nq) = W
            simp
        case c2 => intro v hv; simp at hv; subst hv; rfl
        case c3 => unfold maxLen; omega
        case c4 => omega
        case c5 => have := HB.out.size; simp; omega
        intro v' w2 hown' hgrow _
        obtain ⟨a', c', rfl⟩ := owns_slice hown'
        have HB2 := Lib.hid (below_appended (HBd.out _) (HOd.out _) hgrow)
        have HO2 := Lib.hid hown'
        clear hown' hgrow
        go_wp2
        go_roundw
        case rel => exact ⟨k + 1, a', _, c', by omega, by omega, by go_num, rfl, by rw [HST2.out, List.map_append]; exact HO2.out, HB2.out⟩
        case measure => simp [intOf]; omega
    · obtain rfl : k = E := by omega
      go_wp2_with fail
      refine (KE.out _ HB.out).mono ?_
      rintro e w1 ⟨rfl, nd, rfl⟩
      go_wp2
      go_ret
      exact ⟨av, nv, cv, rfl, by rw [← HLL.out]; exact owns_below HO.out (below_drewN (Below.refl _ wr) nd), below_drewN HB.out nd⟩

/-- the texts behind a up to e, if there is no element among them -/
def textF (l : List It) : Nat → Nat → ByteArray → Option ByteArray
  | 0, _, out => some out
  | f + 1, j, out => if (l.getD j dIt).name.toList.isEmpty = true then textF l f (j + 1) (out ++ (l.getD j dIt).text) else none
def textL (l : List It) (a : Nat) : Option ByteArray := textF l (endL l a - (a + 1)) (a + 1) ByteArray.empty
def txtT (v : Option ByteArray) : ByteArray := match v with | some t => t | none => ByteArray.empty

set_option maxRecDepth 100000 in
set_option maxHeartbeats 3200000 in
theorem specText_any (a : Option Addr) (n c p : Nat) (l : List It) (w : World) (hn : n ≤ 1048576) (hs : ∀ i, i < n → (l.getD i dIt).text.size ≤ 1048576) (hp : p < n) (h : ItsAt w a n c l) :
    Calls Tryz.prog 182 #[.slice a n c, .int .i64 p] w fun e w' => e = .returned (.tuple #[.string (txtT (textL l p)), .bool (textL l p).isSome]) ∧ ∃ n, w' = w.drewN n := by
  obtain ⟨b, o, rfl, h4⟩ := h.row.resolve_left (by omega)
  have H4 := Lib.hid h4
  have HS := Lib.hid hs
  have hbe := endL_bounds (l := l) (a := p) (by rw [h.len]; exact hp)
  rw [h.len] at hbe
  obtain ⟨V, hV⟩ : ∃ V, textL l p = V := ⟨_, rfl⟩
  rw [hV]
  unfold textL at hV
  have KE := Lib.hid (fun W (hb : Below w.heap.size w W) => specEnd_any (some ⟨b, o, none⟩) n c p l W hp (h.below hb))
  obtain ⟨E, hE⟩ : ∃ E, endL l p = E := ⟨_, rfl⟩
  rw [hE] at hbe hV KE
  have HVV := Lib.hid hV
  obtain ⟨hbe1, hbe2⟩ := hbe
  clear h h4 hs hV hE
  go_enter Tryz.func182, Tryz.ntmps182
  go_wp2
  go_loopw [6, 7] (fun v i wr => ∃ (k : Nat) (out : ByteArray), p + 1 ≤ k ∧ k ≤ E ∧ i = .int .i64 k ∧ v = .string out ∧ out.size ≤ k * 1048576 ∧ textF l (E - k) k out = V ∧ ∃ nd, wr = w.drewN nd) (fun _ i _ => E - (intOf i).toNat)
  case atStart => exact ⟨p + 1, ByteArray.empty, Nat.le_refl _, hbe1, by go_num, rfl, by simp, HVV.out, 0, rfl⟩
  case round =>
    obtain ⟨k, out, hk1, hk2, rfl, rfl, hsz, hf, hw⟩ := hrel
    have HF := Lib.hid hf
    have HW := Lib.hid hw
    have hbw : Below w.heap.size w wr := by obtain ⟨nd, rfl⟩ := hw; exact below_drewN (Below.refl _ _) nd
    have HBW := Lib.hid hbw
    clear hf hw hbw
    by_cases hlt2 : k < E
    · have hi := (H4.out k (by omega)).below HBW.out
      have d1 := hi.c1
      have d3 := hi.c3
      have hst : E - k = (E - (k + 1)) + 1 := by omega
      have HST := Lib.hid hst
      have hts := HS.out k (by omega)
      have HF2 : Hid ((if (l.getD k dIt).name.toList.isEmpty = true then textF l (E - (k + 1)) (k + 1) (out ++ (l.getD k dIt).text) else none) = V) := Lib.hid (by
        have := HF.out; rw [HST.out] at this; exact this)
      have q1 : (k : Int) < (n : Int) := by omega
      clear hi hst
      generalize l.getD k dIt = x at d1 d3 hts HF2
      obtain ⟨xd, xt, xs, xn, xa⟩ := x
      dsimp only at d1 d3 hts HF2
      cases hq : xn.toList.isEmpty
      · have HF3 : Hid (V = none) := Lib.hid (by have := HF2.out; rw [hq, if_neg (by decide)] at this; exact this.symm)
        clear HF2
        go_wp2_with fail
        refine (KE.out _ HBW.out).mono ?_
        rintro e w1 ⟨rfl, nd, rfl⟩
        go_wp2
        go_ret2
        exact ⟨by rw [HF3.out]; rfl, drew_more HW.out _⟩
      · have HF3 : Hid (textF l (E - (k + 1)) (k + 1) (out ++ xt) = V) := Lib.hid (by have := HF2.out; rw [hq, if_pos rfl] at this; exact this)
        clear HF2
        go_wp2_with fail
        refine (KE.out _ HBW.out).mono ?_
        rintro e w1 ⟨rfl, nd, rfl⟩
        go_wp2
        go_roundw
        case rel => exact ⟨k + 1, _, by omega, by omega, by go_num, rfl, by rw [ByteArray.size_append]; omega, HF3.out, drew_more HW.out _⟩
        case measure => simp [intOf]; omega
    · obtain rfl : k = E := by omega
      have HF3 : Hid (V = some out) := Lib.hid (by have := HF.out; rw [Nat.sub_self] at this; exact this.symm)
      go_wp2_with fail
      refine (KE.out _ HBW.out).mono ?_
      rintro e w1 ⟨rfl, nd, rfl⟩
      go_wp2
      go_ret2
      exact ⟨by rw [HF3.out]; rfl, drew_more HW.out _⟩
end Go.Proofs.YticpebpicdboaaaGreatDoor

/- The kids by parents are those that stand one step deeper up to the item's end. -/
namespace Go.Proofs.YticpebpicdboaaaGreatDoor
open Go.ChangeShapes Go.WideShapes Go.ChangeAt Go.RowKit
set_option linter.unusedVariables false

theorem endF_out (l : List It) (d : Int) : ∀ f j, endF l d f j = j + f ∨ ¬ d < (l.getD (endF l d f j) dIt).depth
  | 0, j => .inl rfl
  | f + 1, j => by
    by_cases h : d < (l.getD j dIt).depth
    · have e : endF l d (f + 1) j = endF l d f (j + 1) := by
        rw [endF, if_pos h]
      rw [e]
      rcases endF_out l d f (j + 1) with h1 | h1
      · left; omega
      · exact .inr h1
    · have e : endF l d (f + 1) j = j := by
        rw [endF, if_neg h]
      rw [e]
      exact .inr h
theorem endL_out {l : List It} {a : Nat} (h : a < l.length) : endL l a = l.length ∨ dp l (endL l a) ≤ dp l a := by
  rcases endF_out l (l.getD a dIt).depth (l.length - (a + 1)) (a + 1) with h1 | h1
  · left
    unfold endL
    omega
  · right
    unfold dp endL
    omega
theorem endL_in {l : List It} {a i : Nat} (h1 : a < i) (h2 : i < endL l a) : dp l a < dp l i := endF_in l _ _ _ i h1 h2
theorem lastAt_of {l : List It} {d : Int} {a : Nat} (hd : dp l a = d) : ∀ {m : Nat}, a < m → (∀ i, a < i → i < m → dp l i ≠ d) → lastAt l d m = some a
  | m + 1, hm, hn => by
    unfold lastAt
    by_cases e : a = m
    · subst e
      rw [if_pos hd]
    · rw [if_neg (hn m (by omega) (by omega))]
      exact lastAt_of hd (by omega) fun i h1 h2 => hn i h1 (by omega)
theorem low_till {l : List It} (h : Rises l) {E k : Nat} {d : Int} (hk : k < l.length) (hE : dp l E < d) (hne : ∀ i, E < i → i < k → dp l i ≠ d) : ∀ m, E + m < k → dp l (E + m) < d
  | 0, _ => hE
  | m + 1, hm => by
    have h1 := low_till h hk hE hne m (by omega)
    have h2 := (h.step (E + (m + 1)) (by omega) (by omega)).2
    rw [show E + (m + 1) - 1 = E + m from by omega] at h2
    have h3 := hne (E + (m + 1)) (by omega) hm
    omega
theorem kid_iff {l : List It} (h : Rises l) {a k : Nat} (ha : a < l.length) (hk : k < l.length) : kidB l a k = true ↔ a < k ∧ k < endL l a ∧ dp l k = dp l a + 1 := by
  have hb := endL_bounds ha
  unfold kidB
  rw [Bool.and_eq_true, decide_eq_true_iff, decide_eq_true_iff]
  constructor
  · rintro ⟨h0, hp⟩
    obtain ⟨h1, h2, h3⟩ := lastAt_is hp
    refine ⟨h1, ?_, by omega⟩
    refine Nat.lt_of_not_le fun hle => ?_
    rcases endL_out ha with h4 | h4
    · omega
    · rcases Nat.lt_or_ge (endL l a) k with g | g
      · have h5 := h3 (endL l a) (by omega) g
        have h6 : dp l (endL l a) < dp l a := by omega
        have h7 := low_till h hk h6 (fun i g1 g2 => by have := h3 i (by omega) g2; omega) (k - 1 - endL l a) (by omega)
        rw [show endL l a + (k - 1 - endL l a) = k - 1 from by omega] at h7
        have h8 := (h.step k (by omega) hk).2
        omega
      · have e : endL l a = k := by omega
        rw [e] at h4
        omega
  · rintro ⟨h1, h2, h3⟩
    refine ⟨by have := (h.bd a ha).1; omega, ?_⟩
    unfold parOf
    exact lastAt_of (by omega) h1 fun i g1 g2 => by have := endL_in g1 (show i < endL l a by omega); omega
/-- the kids by parents are the model's -/
theorem kids_same {l : List It} (h : Rises l) {a : Nat} (ha : a < l.length) : (kidsUp l l.length a).map (fun j => ((j : Nat) : Int)) = kidsL l a := by
  have hb := endL_bounds ha
  unfold kidsL kidsTo kidsUp
  congr 1
  have e : List.range l.length = List.range' 0 (a + 1) ++ (List.range' (a + 1) (endL l a - (a + 1)) ++ List.range' (endL l a) (l.length - endL l a)) := by
    have e1 := List.range'_append (s := a + 1) (m := endL l a - (a + 1)) (n := l.length - endL l a) (step := 1)
    have e2 := List.range'_append (s := 0) (m := a + 1) (n := l.length - (a + 1)) (step := 1)
    rw [show a + 1 + 1 * (endL l a - (a + 1)) = endL l a from by omega, show endL l a - (a + 1) + (l.length - endL l a) = l.length - (a + 1) from by omega] at e1
    rw [show 0 + 1 * (a + 1) = a + 1 from by omega, show a + 1 + (l.length - (a + 1)) = l.length from by omega] at e2
    rw [e1, e2, List.range_eq_range']
  rw [e, List.filter_append, List.filter_append]
  have f1 : (List.range' 0 (a + 1)).filter (kidB l a) = [] := by
    rw [List.filter_eq_nil_iff]
    intro k hk
    rw [List.mem_range'_1] at hk
    intro hkb
    have := (kid_iff h ha (by omega)).1 hkb
    omega
  have f3 : (List.range' (endL l a) (l.length - endL l a)).filter (kidB l a) = [] := by
    rw [List.filter_eq_nil_iff]
    intro k hk
    rw [List.mem_range'_1] at hk
    intro hkb
    have := (kid_iff h ha (by omega)).1 hkb
    omega
  rw [f1, f3, List.nil_append, List.append_nil]
  apply List.filter_congr
  intro k hk
  rw [List.mem_range'_1] at hk
  have hi := kid_iff h ha (k := k) (by omega)
  have hd : ((l.getD k dIt).depth == (l.getD a dIt).depth + 1) = decide (dp l k = dp l a + 1) := by
    unfold dp
    rw [Bool.eq_iff_iff, beq_iff_eq, decide_eq_true_iff]
  rw [hd, Bool.eq_iff_iff, hi, decide_eq_true_iff]
  constructor
  · rintro ⟨_, _, h3⟩
    exact h3
  · intro h3
    exact ⟨by omega, by omega, h3⟩
end Go.Proofs.YticpebpicdboaaaGreatDoor

/- Rooms: cells of one's own. -/
namespace Go.Proofs.YticpebpicdboaaaGreatDoor
open Go.ChangeShapes Go.WideShapes Go.ChangeAt Go.RowKit
set_option linter.unusedVariables false

theorem below3 (w : World) (o1 o2 o3 : Obj) : Below w.heap.size w (((w.alloc o1).alloc o2).alloc o3) := (((Below.refl _ _).alloc (Nat.le_refl _) _).alloc (by simp) _).alloc (by simp; omega) _


theorem below_made {w w1 : World} (h : w.grownBy w1 none) : Below w.heap.size w w1 := ⟨h.os, h.tape, h.output, h.size, fun i hi => h.block i hi (by simp)⟩


/-- m cells in block b, not frozen -/
def Room (w : World) (b m : Nat) : Prop := b < w.heap.size ∧ ∀ i, i < m → (∃ v, w.cell? ⟨b, i, none⟩ = some v) ∧ w.frozen? ⟨b, i, none⟩ = false
theorem Room.below {w w' : World} {b m : Nat} (h : Room w b m) (hb : Below w.heap.size w w') : Room w' b m :=
  ⟨Nat.lt_of_lt_of_le h.1 hb.size, fun i hi => ⟨(h.2 i hi).1.imp fun v hv => (hb.cell (p := ⟨b, i, none⟩) h.1).trans hv, (hb.frozen (p := ⟨b, i, none⟩) h.1).trans (h.2 i hi).2⟩⟩
theorem room_made {w : World} {base : Nat} {e : TypeId} {size n g cap : Nat} {xs : List Value} (h : w.ownsRow base e size (.slice (some ⟨g, 0, none⟩) n cap) n xs) : Room w g (n * size) := by
  refine ⟨(h.lt g rfl).2, fun i hi => ⟨?_, h.frozenAt i⟩⟩
  rw [h.cellAt i hi]
  have := h.1
  exact ⟨xs[i]'(by omega), List.getElem?_eq_getElem (by omega)⟩

theorem Room.set {w : World} {b m : Nat} (h : Room w b m) (p : Addr) (v : Value) : Room (w.setCell p v) b m :=
  ⟨by simpa using h.1, fun i hi => ⟨by obtain ⟨v', hv⟩ := (h.2 i hi).1; exact cell?_setCell_some hv, by rw [World.frozen?_setCell]; exact (h.2 i hi).2⟩⟩
theorem Room.put {w : World} {b m i : Nat} (h : Room w b m) (hi : i < m) (v : Value) : (w.setCell ⟨b, i, none⟩ v).cell? ⟨b, i, none⟩ = some v := by
  obtain ⟨u, hu⟩ := (h.2 i hi).1
  exact World.cell?_setCell_same _ _ _ hu
theorem set_off {w : World} {b i j : Nat} {v : Value} (h : i ≠ j) : (w.setCell ⟨b, i, none⟩ v).cell? ⟨b, j, none⟩ = w.cell? ⟨b, j, none⟩ := World.cell?_setCell_other _ _ _ _ (fun e => absurd (congrArg Addr.off e) h)
end Go.Proofs.YticpebpicdboaaaGreatDoor

/- Rooms: cells of one's own, attributes and items laid into them. -/
namespace Go.Proofs.YticpebpicdboaaaGreatDoor
open Go.ChangeShapes Go.WideShapes Go.ChangeAt Go.RowKit
set_option linter.unusedVariables false

theorem attrInfo : (Tryz.prog.info? 75).map (fun i => (i.zero, i.size, i.bytes)) = some (some (.agg #[.string ByteArray.empty, .string ByteArray.empty]), 2, 32) := by kernel_rfl
theorem itemInfo : (Tryz.prog.info? 77).map (fun i => (i.zero, i.size, i.bytes)) = some (some (.agg #[.int .i64 0, .string ByteArray.empty, .string ByteArray.empty, .string ByteArray.empty, .slice none 0 0]), 5, 80) := by kernel_rfl
/-- a new slice of attributes is handed back -/
def AtsRes (w : World) (l : List At) (e : Ending) (w' : World) : Prop := ∃ a n c, e = .returned (.slice a n c) ∧ AtsAt w' a n c l ∧ (∀ x, a = some x → w.heap.size ≤ x.block) ∧ Below w.heap.size w w'

theorem ats_step {w : World} {B j n : Nat} {l : List At} {s t : ByteArray} (hr : Room w B (n * 2)) (hj : j < n) (hs : (l.getD j dAt).name = s) (ht : (l.getD j dAt).value = t)
    (hd : ∀ i, i < j → w.cell? ⟨B, i * 2, none⟩ = some (.string (l.getD i dAt).name) ∧ w.cell? ⟨B, i * 2 + 1, none⟩ = some (.string (l.getD i dAt).value)) :
    ∀ i, i < j + 1 → ((w.setCell ⟨B, j * 2, none⟩ (.string s)).setCell ⟨B, j * 2 + 1, none⟩ (.string t)).cell? ⟨B, i * 2, none⟩ = some (.string (l.getD i dAt).name) ∧ ((w.setCell ⟨B, j * 2, none⟩ (.string s)).setCell ⟨B, j * 2 + 1, none⟩ (.string t)).cell? ⟨B, i * 2 + 1, none⟩ = some (.string (l.getD i dAt).value) := by
  intro i hi
  rcases Nat.lt_or_ge i j with h | h
  · rw [set_off (by omega), set_off (by omega), set_off (by omega), set_off (by omega)]
    exact hd i h
  · obtain rfl : i = j := by omega
    rw [set_off (by omega), hr.put (by omega), hs, (hr.set _ _).put (by omega), ht]
    exact ⟨rfl, rfl⟩

/-- five cells that read as an item, its attributes in another block behind B -/
structure ItNew (w : World) (B o : Nat) (x : It) : Prop where
  lt : B < w.heap.size
  wf : -9223372036854775808 ≤ x.depth ∧ x.depth ≤ 9223372036854775807
  size : x.text.size ≤ 9223372036854775807 ∧ x.space.size ≤ 9223372036854775807 ∧ x.name.size ≤ 9223372036854775807
  c0 : w.cell? ⟨B, o, none⟩ = some (.int .i64 x.depth)
  c1 : w.cell? ⟨B, o + 1, none⟩ = some (.string x.text)
  c2 : w.cell? ⟨B, o + 2, none⟩ = some (.string x.space)
  c3 : w.cell? ⟨B, o + 3, none⟩ = some (.string x.name)
  c4 : ∃ a n c, w.cell? ⟨B, o + 4, none⟩ = some (.slice a n c) ∧ AtsAt w a n c x.attrs ∧ ∀ y, a = some y → B < y.block
theorem ItNew.it {w : World} {B o : Nat} {x : It} (h : ItNew w B o x) : ItAt w B o x := by
  obtain ⟨a, n, c, h4, hat, _⟩ := h.c4
  exact ⟨h.lt, h.wf, h.size, h.c0, h.c1, h.c2, h.c3, a, n, c, h4, hat⟩
theorem ItNew.below {w w' : World} {b o : Nat} {x : It} (h : ItNew w b o x) (hb : Below w.heap.size w w') : ItNew w' b o x := by
  obtain ⟨a, n, c, h4, hat, hs⟩ := h.c4
  exact ⟨Nat.lt_of_lt_of_le h.lt hb.size, h.wf, h.size, (hb.cell (by exact h.lt)).trans h.c0, (hb.cell (by exact h.lt)).trans h.c1, (hb.cell (by exact h.lt)).trans h.c2, (hb.cell (by exact h.lt)).trans h.c3, a, n, c, (hb.cell (by exact h.lt)).trans h4, hat.below hb, hs⟩
theorem AtsAt.set {w : World} {a : Option Addr} {n c : Nat} {l : List At} {B i : Nat} {v : Value} (h : AtsAt w a n c l) (hs : ∀ y, a = some y → B < y.block) : AtsAt (w.setCell ⟨B, i, none⟩ v) a n c l := by
  refine ⟨h.len, h.max, h.size, ?_⟩
  rcases h.row with e | ⟨b, o, ha, hr, hc⟩
  · exact .inl e
  · have hne := hs _ ha
    refine .inr ⟨b, o, ha, by simpa using hr, fun i hi => ⟨?_, ?_⟩⟩
    · rw [World.cell?_setCell_other _ _ _ _ (fun e => by simp only [Addr.mk.injEq] at e; simp only at hne; omega)]; exact (hc i hi).1
    · rw [World.cell?_setCell_other _ _ _ _ (fun e => by simp only [Addr.mk.injEq] at e; simp only at hne; omega)]; exact (hc i hi).2
theorem ItNew.set {w : World} {B o i : Nat} {x : It} {v : Value} (h : ItNew w B o x) (hi : i < o ∨ o + 5 ≤ i) : ItNew (w.setCell ⟨B, i, none⟩ v) B o x := by
  obtain ⟨a, n, c, h4, hat, hs⟩ := h.c4
  refine ⟨by simpa using h.lt, h.wf, h.size, ?_, ?_, ?_, ?_, a, n, c, ?_, hat.set hs, hs⟩
  · rw [set_off (by omega)]; exact h.c0
  · rw [set_off (by omega)]; exact h.c1
  · rw [set_off (by omega)]; exact h.c2
  · rw [set_off (by omega)]; exact h.c3
  · rw [set_off (by omega)]; exact h4

/-- an item by value is handed back, its attributes in new memory -/
def ItRes (w : World) (x : It) (e : Ending) (w' : World) : Prop := ∃ a n c, e = .returned (.agg #[.int .i64 x.depth, .string x.text, .string x.space, .string x.name, .slice a n c]) ∧ AtsAt w' a n c x.attrs ∧ (∀ y, a = some y → w.heap.size ≤ y.block) ∧ Below w.heap.size w w'

/-- a new slice of items is handed back -/
def ItsRes (w : World) (l : List It) (e : Ending) (w' : World) : Prop := ∃ a n c, e = .returned (.slice a n c) ∧ ItsAt w' a n c l ∧ Below w.heap.size w w'
theorem its_step {w : World} {B j n : Nat} {l : List It} {x : It} {a : Option Addr} {m c : Nat} (hr : Room w B (n * 5)) (hj : j < n) (hx : l.getD j dIt = x)
    (hwf : -9223372036854775808 ≤ x.depth ∧ x.depth ≤ 9223372036854775807) (hsz : x.text.size ≤ 9223372036854775807 ∧ x.space.size ≤ 9223372036854775807 ∧ x.name.size ≤ 9223372036854775807)
    (hat : AtsAt w a m c x.attrs) (hs : ∀ y, a = some y → B < y.block) (hd : ∀ i, i < j → ItNew w B (i * 5) (l.getD i dIt)) :
    ∀ i, i < j + 1 → ItNew (((((w.setCell ⟨B, j * 5, none⟩ (.int .i64 x.depth)).setCell ⟨B, j * 5 + 1, none⟩ (.string x.text)).setCell ⟨B, j * 5 + 2, none⟩ (.string x.space)).setCell ⟨B, j * 5 + 3, none⟩ (.string x.name)).setCell ⟨B, j * 5 + 4, none⟩ (.slice a m c)) B (i * 5) (l.getD i dIt) := by
  intro i hi
  rcases Nat.lt_or_ge i j with h | h
  · exact (((((hd i h).set (by omega)).set (by omega)).set (by omega)).set (by omega)).set (by omega)
  · obtain rfl : i = j := by omega
    rw [hx]
    have r1 := hr.set ⟨B, i * 5, none⟩ (.int .i64 x.depth)
    have r2 := r1.set ⟨B, i * 5 + 1, none⟩ (.string x.text)
    have r3 := r2.set ⟨B, i * 5 + 2, none⟩ (.string x.space)
    have r4 := r3.set ⟨B, i * 5 + 3, none⟩ (.string x.name)
    refine ⟨(r4.set _ _).1, hwf, hsz, ?_, ?_, ?_, ?_, a, m, c, ?_, ((((hat.set hs).set hs).set hs).set hs).set hs, hs⟩
    · rw [set_off (by omega), set_off (by omega), set_off (by omega), set_off (by omega)]
      exact hr.put (by omega) _
    · rw [set_off (by omega), set_off (by omega), set_off (by omega)]
      exact r1.put (by omega) _
    · rw [set_off (by omega), set_off (by omega)]
      exact r2.put (by omega) _
    · rw [set_off (by omega)]
      exact r3.put (by omega) _
    · exact r4.put (by omega) _

end Go.Proofs.YticpebpicdboaaaGreatDoor
