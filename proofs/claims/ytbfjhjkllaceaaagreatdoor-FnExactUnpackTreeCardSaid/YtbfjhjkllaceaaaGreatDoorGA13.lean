/- Texts laid together, part 13. -/
import Derived.Test.YtbfjhjkllaceaaaGreatDoorGA12

/- eqTreeResult, markTreeResult, heldTreeResult. -/
namespace Go.Proofs.YtbfjhjkllaceaaaGreatDoor
open Go.ChangeShapes Go.WideShapes Go.ChangeAt Go.RowKit
set_option linter.unusedVariables false

theorem OwnIts.below {w w' : World} {lo hi : Nat} {a : Option Addr} {n c : Nat} {l : List It} (h : OwnIts w lo hi a n c l) (hb : Below w.heap.size w w') : OwnIts w' lo hi a n c l := by
  refine ⟨h.len, h.max, h.it, h.row.imp id ?_⟩
  rintro ⟨b, A, N, C, ha, h1, h2, hr, hc, hab, haa⟩
  exact ⟨b, A, N, C, ha, h1, h2, hr.below hb, fun i hi => ⟨(hc i hi).1.below hr.1 hb, (hc i hi).2.only (Only.below (P := fun _ => False) hb) fun _ _ _ h => h⟩, hab, haa⟩
/-- what is written in other blocks leaves the row as it is -/
theorem OwnIts.only {P : Nat → Prop} {w w' : World} {lo hi : Nat} {a : Option Addr} {n c : Nat} {l : List It} (h : OwnIts w lo hi a n c l) (ho : Only P w w') (hP : ∀ i, lo ≤ i → i < hi → ¬ P i) : OwnIts w' lo hi a n c l := by
  refine ⟨h.len, h.max, h.it, h.row.imp id ?_⟩
  rintro ⟨b, A, N, C, ha, h1, h2, hr, hc, hab, haa⟩
  refine ⟨b, A, N, C, ha, h1, h2, hr.only ho (hP b h1 h2), fun i hi => ⟨(hc i hi).1.only hr.1 ho (hP b h1 h2), (hc i hi).2.only ho fun x hx hne => ?_⟩, hab, haa⟩
  obtain ⟨b5, e5, g1, g2, _⟩ := (hc i hi).2.own.resolve_left hne
  rw [hx] at e5
  cases e5
  exact hP b5 g1 g2
theorem OwnIts.mono {w : World} {lo hi lo' hi' : Nat} {a : Option Addr} {n c : Nat} {l : List It} (h : OwnIts w lo hi a n c l) (h1 : lo' ≤ lo) (h2 : hi ≤ hi') : OwnIts w lo' hi' a n c l := by
  refine ⟨h.len, h.max, h.it, h.row.imp id ?_⟩
  rintro ⟨b, A, N, C, ha, g1, g2, hr, hc, hab, haa⟩
  refine ⟨b, A, N, C, ha, by omega, by omega, hr, fun i hi => ⟨(hc i hi).1, (hc i hi).2.ats, (hc i hi).2.own.imp id ?_⟩, hab, haa⟩
  rintro ⟨b5, e5, k1, k2, k3⟩
  exact ⟨b5, e5, by omega, by omega, k3⟩

set_option maxHeartbeats 800000 in
theorem eqTreeResult_true (cd : Int) (a a' : Option Addr) (n n' c c' : Nat) (l : List It) (w : World) (h : ItsAt w a n c l) (h' : ItsAt w a' n' c' l) :
    Calls Tryz.prog 19 #[.agg #[.int .i64 cd, .slice a n c], .agg #[.int .i64 cd, .slice a' n' c']] w fun e w' => e = .returned (.bool true) ∧ Below w.heap.size w w' := by
  have K := Lib.hid (fun W (hb : Below w.heap.size w W) => eqItemS_true a a' n n' c c' l W (h.below hb) (h'.below hb))
  clear h h'
  go_enter Tryz.func19, Tryz.ntmps19
  go_wp2_with fail
  refine (K.out _ (below2 _ _ _)).mono ?_
  rintro e w1 ⟨rfl, hb⟩
  go_wp2
  go_ret
  exact ⟨rfl, below_then (below2 _ _ _) hb⟩

set_option maxHeartbeats 800000 in
theorem markTreeResult_any (cd : Int) (lo hi : Nat) (a : Option Addr) (n c k : Nat) (l : List It) (w : World) (h0 : 0 < k) (hK : kAt k l n ≤ 10000000000000000) (hA : ∀ i, i < n → (l.getD i dIt).attrs.length ≤ 1048576) (h : OwnIts w lo hi a n c l) :
    Calls Tryz.prog 22 #[.agg #[.int .i64 cd, .slice a n c], .int .i64 k] w (MarkIts w lo hi a n c k l) := by
  have K := Lib.hid (fun W (hb : Below w.heap.size w W) => markItemS_any lo hi a n c k l W h0 hK hA (h.below hb))
  clear h hK hA
  go_enter Tryz.func22, Tryz.ntmps22
  go_wp2_with fail
  refine (K.out _ (below1 _ _)).mono ?_
  rintro e w1 ⟨rfl, hown, ho⟩
  go_wp2
  go_ret
  exact ⟨rfl, hown, (Only.below (below1 _ _)).trans ho⟩

set_option maxHeartbeats 800000 in
theorem heldTreeResult_any (cd : Int) (a : Option Addr) (n c k : Nat) (l : List It) (w : World) (h0 : 0 < k) (hK : kAt k l n ≤ 10000000000000000) (hA : ∀ i, i < n → (l.getD i dIt).attrs.length ≤ 1048576) (hlen : l.length = n) (h : ItsAt w a n c (markIts k l)) :
    Calls Tryz.prog 23 #[.agg #[.int .i64 cd, .slice a n c], .int .i64 k] w fun e w' => e = .returned (.int .i64 ((kAt k l n : Nat) : Int)) ∧ Below w.heap.size w w' := by
  have K := Lib.hid (fun W (hb : Below w.heap.size w W) => heldItemS_any a n c k l W h0 hK hA hlen (h.below hb))
  have hk0 : (0 : Int) ≤ ((kAt k l n : Nat) : Int) := by omega
  generalize kAt k l n = m at K hk0
  clear h hK hA
  go_enter Tryz.func23, Tryz.ntmps23
  go_wp2_with fail
  refine (K.out _ (below1 _ _)).mono ?_
  rintro e w1 ⟨rfl, hb⟩
  go_wp2
  go_ret
  exact ⟨rfl, below_then (below1 _ _) hb⟩
end Go.Proofs.YtbfjhjkllaceaaaGreatDoor

/- Contract of the laws' eqByteS. -/
namespace Go.Proofs.YtbfjhjkllaceaaaGreatDoor
open Go.ChangeShapes Go.WideShapes Go.ChangeAt Go.RowKit
set_option linter.unusedVariables false

set_option maxHeartbeats 800000 in
theorem eqByteS_len (a1 a2 : Option Addr) (n1 n2 c1 c2 : Nat) (w : World) (h1 : n1 ≤ 9223372036854775807) (h2 : n2 ≤ 9223372036854775807) (hne : n1 ≠ n2) :
    Calls Tryz.prog 20 #[.slice a1 n1 c1, .slice a2 n2 c2] w fun e w' => e = .returned (.bool false) ∧ ∃ n, w' = w.drewN n := by
  have hb : ((n1 : Int) != (n2 : Int)) = true := by rw [bne_iff_ne]; omega
  have hb2 : ((n1 : Int) == (n2 : Int)) = false := by rw [beq_eq_false_iff_ne]; omega
  clear hne
  go_enter Tryz.func20, Tryz.ntmps20
  go_wp2
  go_ret
  exact ⟨rfl, 0, rfl⟩
set_option maxHeartbeats 800000 in
theorem eqByteS_nil (a1 a2 : Option Addr) (c1 c2 : Nat) (w : World) :
    Calls Tryz.prog 20 #[.slice a1 0 c1, .slice a2 0 c2] w fun e w' => e = .returned (.bool true) ∧ ∃ n, w' = w.drewN n := by
  go_enter Tryz.func20, Tryz.ntmps20
  go_wp2
  go_loop [5] (fun i => i = .int .i64 0) (fun i => 0)
  case atStart => rfl
  case round =>
    subst hrel
    go_wp2
    go_ret
    exact ⟨rfl, 0, rfl⟩

set_option maxHeartbeats 1600000 in
theorem eqByteS_any (v1 v2 : Value) (xs ys : List Int) (w : World) (h1 : Row w .u8 v1 xs) (h2 : Row w .u8 v2 ys) :
    Calls Tryz.prog 20 #[v1, v2] w fun e w' => e = .returned (.bool (decide (xs = ys))) ∧ ∃ n, w' = w.drewN n := by
  rcases h1 with ⟨rfl, rfl⟩ | ⟨b1, o1, c1, rfl, hc1, hm1, hb1, hx⟩
  · rcases h2 with ⟨rfl, rfl⟩ | ⟨b2, o2, c2, rfl, hc2, hm2, hb2, hy⟩
    · exact (eqByteS_nil _ _ _ _ w).mono fun e w' ⟨he, hw⟩ => ⟨he, hw⟩
    · cases ys with
      | nil => exact (eqByteS_nil _ _ _ _ w).mono fun e w' ⟨he, hw⟩ => ⟨he, hw⟩
      | cons y ys =>
        refine (eqByteS_len _ _ _ _ _ _ w (by omega) (by unfold maxLen at hm2; omega) (by simp)).mono fun e w' ⟨he, hw⟩ => ⟨?_, hw⟩
        rw [he, decide_eq_false (by simp)]
  · rcases h2 with ⟨rfl, rfl⟩ | ⟨b2, o2, c2, rfl, hc2, hm2, hb2, hy⟩
    · cases xs with
      | nil => exact (eqByteS_nil _ _ _ _ w).mono fun e w' ⟨he, hw⟩ => ⟨he, hw⟩
      | cons y ys =>
        refine (eqByteS_len _ _ _ _ _ _ w (by unfold maxLen at hm1; omega) (by omega) (by simp)).mono fun e w' ⟨he, hw⟩ => ⟨?_, hw⟩
        rw [he, decide_eq_false (by simp)]
    · by_cases hl : xs.length = ys.length
      · have hmm : xs.length ≤ 9223372036854775807 := by unfold maxLen at hm1; omega
        have HL := Lib.hid hl
        clear hl
        rw [← HL.out]
        go_enter Tryz.func20, Tryz.ntmps20
        go_wp2
        go_loopw [5] (fun i wr => ∃ k : Nat, k ≤ xs.length ∧ i = .int .i64 k ∧ xs.take k = ys.take k ∧ ∃ n, wr = w.drewN n) (fun i _ => xs.length - (intOf i).toNat)
        case atStart => exact ⟨0, Nat.zero_le _, rfl, rfl, 0, rfl⟩
        case round =>
          obtain ⟨k, hk, rfl, ht, nd, rfl⟩ := hrel
          have HT := Lib.hid ht
          clear ht
          by_cases hlt : k < xs.length
          · have d1 := hx k hlt
            have d2 := hy k (by have := HL.out; omega)
            clear hx hy
            have k1 : (k : Int) < (xs.length : Int) := by omega
            have hne := ne_at HL.out k hlt
            have hsu := fun h => take_eq_succ HL.out k hlt h HT.out
            generalize xs.getD k 0 = x at d1 hne hsu
            generalize ys.getD k 0 = y at d2 hne hsu
            have HNE := Lib.hid hne
            have HSU := Lib.hid hsu
            clear hne hsu
            by_cases he : x = y
            · have q1 : (x == y) = true := by simpa using he
              have q2 : (x != y) = false := by simpa using he
              have HE := Lib.hid q1
              subst he
              clear q1 q2
              go_wp2_with fail
              go_quiet (fail)
              go_wp2
              go_roundw
              case rel => exact ⟨k + 1, by omega, by go_num, HSU.out HE.out, _, rfl⟩
              case measure => simp [intOf]; omega
            · have q1 : (x == y) = false := by simpa using he
              have q2 : (x != y) = true := by simpa using he
              have HE := Lib.hid q1
              go_wp2_with fail
              go_quiet (fail)
              go_wp2
              go_ret
              exact ⟨ret_bool (HNE.out HE.out).symm, _, World.drewN_drewN _ _ _⟩
          · obtain rfl : k = xs.length := by omega
            go_wp2
            go_ret
            have := HT.out
            rw [List.take_length, HL.out, List.take_length] at this
            exact ⟨ret_bool (by simpa using this), _, rfl⟩
      · refine (eqByteS_len _ _ _ _ _ _ w (by unfold maxLen at hm1; omega) (by unfold maxLen at hm2; omega) hl).mono fun e w' ⟨he, hw⟩ => ⟨?_, hw⟩
        rw [he, decide_eq_false (fun h => hl (by rw [h]))]
end Go.Proofs.YtbfjhjkllaceaaaGreatDoor

/- Contracts of the laws' helpers on slices of bytes. -/
namespace Go.Proofs.YtbfjhjkllaceaaaGreatDoor
open Go.ChangeShapes Go.WideShapes Go.ChangeAt Go.RowKit
set_option linter.unusedVariables false


/-- the marks k, k+1, .. of n bytes -/
def markL (k n : Nat) : List Int := (List.range n).map fun i => ((k + i : Nat) : Int) % 256
theorem markL_length (k n : Nat) : (markL k n).length = n := by simp [markL]
theorem markL_get (k n i : Nat) (h : i < n) : (markL k n).getD i 0 = ((k + i : Nat) : Int) % 256 := by
  simp [markL, List.getD_eq_getElem?_getD, h]
theorem markL_succ (k n : Nat) : markL k (n + 1) = markL k n ++ [((k + n : Nat) : Int) % 256] := by
  simp [markL, List.range_succ]
theorem mark_step (k j : Nat) (xs : List Int) (hj : j < xs.length) (f : Int → Value) :
    ((markL k j ++ xs.drop j).map f).set j (f (((k + j : Nat) : Int) % 256)) = (markL k (j + 1) ++ xs.drop (j + 1)).map f := by
  rw [markL_succ, List.drop_eq_getElem_cons hj, List.map_append, List.set_append_right _ _ (by simp [markL_length])]
  simp only [List.map_cons, List.length_map, markL_length, Nat.sub_self, List.set_cons_zero, List.map_append, List.append_assoc, List.cons_append, List.nil_append]

set_option maxHeartbeats 800000 in
theorem markByteS_row (b cap B : Nat) (xs : List Int) (k0 : Nat) (w : World) (hk0 : k0 ≤ 1152921504606846976) (hn : xs.length ≤ 1152921504606846976)
    (hown : w.ownsRow B 5 1 (.slice (some ⟨b, 0, none⟩) xs.length cap) xs.length (xs.map (Value.int .u8))) :
    Calls Tryz.prog 21 #[.slice (some ⟨b, 0, none⟩) xs.length cap, .int .i64 k0] w fun e w' => e = .returned (.int .i64 ((k0 + xs.length : Nat) : Int)) ∧
      w'.ownsRow B 5 1 (.slice (some ⟨b, 0, none⟩) xs.length cap) xs.length ((markL k0 xs.length).map (Value.int .u8)) ∧ w.grownBy w' (some b) := by
  go_enter Tryz.func21, Tryz.ntmps21
  go_wp2
  go_loopw [1, 5] (fun q i wr => ∃ j : Nat, j ≤ xs.length ∧ i = .int .i64 j ∧ q = .int .i64 ((k0 + j : Nat) : Int) ∧ wr.ownsRow B 5 1 (.slice (some ⟨b, 0, none⟩) xs.length cap) xs.length ((markL k0 j ++ xs.drop j).map (Value.int .u8)) ∧ w.grownBy wr (some b)) (fun _ i _ => xs.length - (intOf i).toNat)
  case atStart => exact ⟨0, Nat.zero_le _, rfl, rfl, by simpa [markL] using hown, World.grownBy.refl _ _⟩
  case round =>
    obtain ⟨j, hj, rfl, rfl, ho, hg⟩ := hrel
    by_cases hlt : j < xs.length
    · have c1 := ho.cellAt j (by omega)
      have c2 : ((markL k0 j ++ xs.drop j).map (Value.int .u8))[j]? = some (.int .u8 (xs.getD j 0)) := by
        rw [List.map_append, List.getElem?_append_right (by simp [markL_length])]
        simp [markL_length, hlt, List.getElem?_drop]
      rw [c2] at c1
      have c3 := ho.frozenAt j
      clear c2
      go_wp2
      go_roundw
      case rel =>
        have h1 := ho.stored j (.int .u8 (((k0 + j : Nat) : Int) % 256))
        rw [mark_step k0 j xs hlt (Value.int .u8)] at h1
        refine ⟨j + 1, by omega, by go_num, by go_num, ?_, ?_⟩
        · rw [Int.natCast_add] at h1
          exact h1.1
        · rw [Int.natCast_add] at h1
          exact grown_trans_row hg h1.2
      case measure => simp [intOf]; omega
    · obtain rfl : j = xs.length := by omega
      go_wp2
      go_ret
      refine ⟨rfl, ?_, hg⟩
      rw [List.drop_length, List.append_nil] at ho
      exact ho

set_option maxHeartbeats 800000 in
theorem markByteS_nil (k : Int) (w : World) :
    Calls Tryz.prog 21 #[.slice none 0 0, .int .i64 k] w fun e w' => e = .returned (.int .i64 k) ∧ w' = w := by
  go_enter Tryz.func21, Tryz.ntmps21
  go_wp2
  go_loop [1, 5] (fun q i => i = .int .i64 0 ∧ q = .int .i64 k) (fun _ i => 0)
  case atStart => exact ⟨rfl, rfl⟩
  case round =>
    obtain ⟨rfl, rfl⟩ := hrel
    go_wp2
    go_ret
    exact ⟨rfl, rfl⟩

/-- marking an owned row, nil or not -/
theorem markByteS_any (B : Nat) (v : Value) (n : Nat) (xs : List Int) (k0 : Nat) (w : World) (hk0 : k0 ≤ 1152921504606846976) (hn : n ≤ 1152921504606846976)
    (hown : w.ownsRow B 5 1 v n (xs.map (Value.int .u8))) :
    Calls Tryz.prog 21 #[v, .int .i64 k0] w fun e w' => e = .returned (.int .i64 ((k0 + n : Nat) : Int)) ∧
      w'.ownsRow B 5 1 v n ((markL k0 n).map (Value.int .u8)) ∧ w.grownBy w' v.ownBlock := by
  have hl : xs.length = n := by have := hown.1; simpa using this
  subst hl
  rcases hown.2 with ⟨hv, h0⟩ | ⟨g, cap, cur, hv, _⟩
  · have : xs = [] := List.length_eq_zero_iff.1 h0
    subst this
    subst hv
    refine (markByteS_nil k0 w).mono fun e w' ⟨he, hw⟩ => ?_
    subst hw
    exact ⟨he, by simpa [markL] using hown, World.grownBy.refl _ _⟩
  · subst hv
    exact markByteS_row g cap B xs k0 w hk0 hn hown
end Go.Proofs.YtbfjhjkllaceaaaGreatDoor

/- A slice of bytes that came in. -/
namespace Go.Proofs.YtbfjhjkllaceaaaGreatDoor
open Go.ChangeShapes Go.WideShapes Go.ChangeAt Go.RowKit
set_option linter.unusedVariables false

/-- the bytes xs are what the slice that came in holds -/
structure InRow (W : World) (a : Option Addr) (n c : Nat) (xs : List Int) : Prop where
  max : n ≤ maxLen
  len : xs.length = n
  byte : ∀ i, 0 ≤ xs.getD i 0 ∧ xs.getD i 0 ≤ 255
  row : n = 0 ∨ ∃ rb ro, a = some ⟨rb, ro, none⟩ ∧ rb < W.heap.size ∧ ∀ i, i < n → W.cell? ⟨rb, ro + i, none⟩ = some (.int .u8 (xs.getD i 0))
theorem InRow.nil (W : World) : InRow W none 0 0 [] := ⟨by decide, rfl, fun i => by simp, .inl rfl⟩
theorem InRow.cells {W : World} {x : Addr} {n : Nat} {zs : List Int} (hn : n ≤ zs.length) (hcell : ∀ i, i < zs.length → W.cell? (x.add i) = some (.int .u8 (zs.getD i 0))) :
    n = 0 ∨ ∃ rb ro, some x = some ⟨rb, ro, none⟩ ∧ rb < W.heap.size ∧ ∀ i, i < n → W.cell? ⟨rb, ro + i, none⟩ = some (.int .u8 (zs.getD i 0)) := by
  by_cases h0 : n = 0
  · exact .inl h0
  · obtain ⟨b, o, s⟩ := x
    have hc := hcell 0 (by omega)
    have hs : s = none := by simpa [Addr.add] using World.cell?_spot hc
    subst hs
    refine .inr ⟨b, o, rfl, by simpa [Addr.add] using World.block_lt_of_cell? W _ hc, fun i hi => ?_⟩
    have := hcell i (by omega)
    rwa [Addr.add_lit] at this
theorem InRow.ofCells {W : World} {x : Addr} {n c : Nat} {zs : List Int} (hl : n ≤ c) (hm : c ≤ maxLen) (hz : zs.length = c) (hcell : ∀ i, i < zs.length → W.cell? (x.add i) = some (.int .u8 (zs.getD i 0)))
    (hwz : ∀ y ∈ zs, (Lit.int .u8 y).wf = true) : InRow W (some x) n c (zs.take n) := by
  have hb : ∀ i, 0 ≤ zs.getD i 0 ∧ zs.getD i 0 ≤ 255 := by
    intro i
    rw [List.getD_eq_getElem?_getD]
    by_cases hi : i < zs.length
    · rw [List.getElem?_eq_getElem hi]
      have := hwz _ (List.getElem_mem hi)
      simp only [Lit.wf, Bool.and_eq_true, decide_eq_true_eq] at this
      exact this
    · rw [List.getElem?_eq_none (by omega)]
      simp
  have hg : ∀ i, i < n → (zs.take n).getD i 0 = zs.getD i 0 := fun i hi => by
    simp only [List.getD_eq_getElem?_getD, List.getElem?_take, hi, if_true]
  refine ⟨Nat.le_trans hl hm, by rw [List.length_take]; omega, fun i => ?_, ?_⟩
  · by_cases hi : i < n
    · rw [hg i hi]
      exact hb i
    · rw [List.getD_eq_getElem?_getD, List.getElem?_eq_none (by rw [List.length_take]; omega)]
      simp
  · rcases InRow.cells (x := x) (n := n) (by omega) hcell with h | ⟨rb, ro, h1, h2, h3⟩
    · exact .inl h
    · exact .inr ⟨rb, ro, h1, h2, fun i hi => by rw [hg i hi]; exact h3 i hi⟩
/-- a row of the call's own, handed on -/
theorem inRow_owned {W : World} {B : Nat} {a : Option Addr} {n c : Nat} {xs : List Int} (h : W.ownsRow B 5 1 (.slice a n c) n (xs.map (Value.int .u8))) (hb : ∀ i, 0 ≤ xs.getD i 0 ∧ xs.getD i 0 ≤ 255) : InRow W a n c xs := by
  have hl := owns_length h
  rcases Row.of_owns h with ⟨hv, rfl⟩ | ⟨b, o, cap, hv, h1, h2, h3, h4⟩
  · simp only [Value.slice.injEq] at hv
    obtain ⟨rfl, rfl, rfl⟩ := hv
    exact ⟨by decide, rfl, hb, .inl rfl⟩
  · simp only [Value.slice.injEq] at hv
    obtain ⟨rfl, rfl, rfl⟩ := hv
    exact ⟨Nat.le_trans h1 h2, rfl, hb, .inr ⟨b, o, rfl, h3, h4⟩⟩
end Go.Proofs.YtbfjhjkllaceaaaGreatDoor

/- toByteS: a copy of bytes; eqReadResult. -/
namespace Go.Proofs.YtbfjhjkllaceaaaGreatDoor
open Go.ChangeShapes Go.WideShapes Go.ChangeAt Go.RowKit
set_option linter.unusedVariables false

theorem tbInfo : (Tryz.prog.info? 5).map (fun i => (i.zero, i.size, i.bytes)) = some (some (.int .u8 0), 1, 1) := by kernel_rfl
theorem below_of_grown0 {w w1 : World} (h : w.grownBy w1 none) : Below w.heap.size w w1 := ⟨h.os, h.tape, h.output, h.size, fun i hi => h.block i hi (by simp)⟩
theorem InRow.below {w w' : World} {a : Option Addr} {n c : Nat} {xs : List Int} (h : InRow w a n c xs) (hb : Below w.heap.size w w') : InRow w' a n c xs := by
  refine ⟨h.max, h.len, h.byte, ?_⟩
  rcases h.row with e | ⟨rb, ro, ha, hr, hc⟩
  · exact .inl e
  · exact .inr ⟨rb, ro, ha, Nat.lt_of_lt_of_le hr hb.size, fun i hi => (hb.cell (p := ⟨rb, ro + i, none⟩) hr).trans (hc i hi)⟩
theorem copy_step (j n : Nat) (xs : List Int) (hn : n = xs.length) (hj : j < n) :
    ((xs.take j ++ List.replicate (n - j) 0).map (Value.int .u8)).set j (.int .u8 (xs.getD j 0)) = (xs.take (j + 1) ++ List.replicate (n - (j + 1)) 0).map (Value.int .u8) := by
  subst hn
  have e : xs.length - j = (xs.length - (j + 1)) + 1 := by omega
  have hlen : ((xs.take j).map (Value.int .u8)).length = j := by simp; omega
  have hget : xs.take (j + 1) = xs.take j ++ [xs.getD j 0] := by
    rw [List.take_succ_eq_append_getElem hj, List.getD_eq_getElem?_getD, List.getElem?_eq_getElem hj]; rfl
  rw [e, List.replicate_succ, hget, List.map_append, List.set_append_right _ _ (by rw [hlen]; exact Nat.le_refl _), hlen, Nat.sub_self, List.map_cons, List.set_cons_zero, List.map_append, List.map_append]
  simp only [List.map_cons, List.map_nil, List.append_assoc, List.cons_append, List.nil_append]

set_option maxRecDepth 100000 in
set_option maxHeartbeats 1600000 in
theorem toByteS_any (a : Option Addr) (n c : Nat) (xs : List Int) (w : World) (hn : n ≤ 1048576) (h : InRow w a n c xs) :
    Calls Tryz.prog 18 #[.slice a n c] w (OwnsRes w 5 .u8 xs) := by
  obtain ⟨i0, hi, hz0, hz1, hz2⟩ := info_parts tbInfo
  have HR := Lib.hid h.row
  have HL := Lib.hid h.len.symm
  clear h
  go_enter Tryz.func18, Tryz.ntmps18
  go_wp2_with (at_make; refine wpList_make_full _ rfl _ _ 22 rfl w.heap.size 5 i0 (.int .u8 0) 1 Tryz.underlying22 hi hz0 hz1 .i64 .i64 (n : Int) (n : Int) n rfl rfl rfl rfl ?c1 ?c2 ?c3 ?_)
  case c1 => rw [hz2]; omega
  case c2 => unfold maxLen; omega
  case c3 => exact Nat.le_refl _
  intro w1 ho1 hg1
  have HO1 := Lib.hid ho1
  have HG1 := Lib.hid hg1
  clear ho1 hg1
  go_wp2
  go_loopw [4] (fun i wr => ∃ j : Nat, j ≤ n ∧ i = .int .i64 j ∧ wr.ownsRow w.heap.size 5 1 (.slice (some ⟨w.heap.size, 0, none⟩) n n) n ((xs.take j ++ List.replicate (n - j) 0).map (Value.int .u8)) ∧ Below w.heap.size w wr) (fun i _ => n - (intOf i).toNat)
  case atStart =>
    refine ⟨0, Nat.zero_le _, rfl, ?_, below_of_grown0 HG1.out⟩
    have := HO1.out
    rw [toList_madeCells_one] at this
    simpa using this
  case round =>
    obtain ⟨j, hj, rfl, ho, hb⟩ := hrel
    by_cases hlt : j < n
    · rcases HR.out with h0 | ⟨b, o, rfl, h3, h4⟩
      · omega
      · have hc := (hb.cell (p := ⟨b, o + j, none⟩) h3).trans (h4 j (by have := HL.out; omega))
        have c1 := ho.cellAt j (by omega)
        have c2 : ((xs.take j ++ List.replicate (n - j) 0).map (Value.int .u8))[j]? = some (.int .u8 0) := by
          have hlx := HL.out
          have hlen : ((xs.take j).map (Value.int .u8)).length = j := by rw [List.length_map, List.length_take]; omega
          rw [List.map_append, List.getElem?_append_right (by rw [hlen]; exact Nat.le_refl _), hlen, Nat.sub_self, List.map_replicate, List.getElem?_replicate, if_pos (by omega)]
        rw [c2] at c1
        have c3 := ho.frozenAt j
        have HO := Lib.hid ho
        have HB := Lib.hid hb
        have hs := (ho.stored j (.int .u8 (xs.getD j 0))).1
        rw [copy_step j n xs HL.out hlt] at hs
        obtain ⟨z, hz⟩ : ∃ z, xs.getD j 0 = z := ⟨_, rfl⟩
        rw [hz] at hs hc
        have HS := Lib.hid hs
        clear c2 h4 ho hb hs hz
        go_wp2
        go_roundw
        case rel => exact ⟨j + 1, by omega, by go_num, HS.out, HB.out.setCell (p := ⟨w.heap.size, j, none⟩) (Nat.le_refl _) _⟩
        case measure => simp [intOf]; omega
    · obtain rfl : j = n := by omega
      have HO := Lib.hid ho
      have HB := Lib.hid hb
      clear ho hb
      go_wp2
      go_ret
      refine ⟨_, _, _, rfl, ?_, HB.out⟩
      have := HO.out
      have hl := HL.out
      subst hl
      simpa using this

/-- a local struct of three cells, in block b -/
structure Var3 (w : World) (b : Nat) (x y z : Value) : Prop where
  lt : b < w.heap.size
  c0 : w.cell? ⟨b, 0, none⟩ = some x
  c1 : w.cell? ⟨b, 1, none⟩ = some y
  c2 : w.cell? ⟨b, 2, none⟩ = some z
theorem Var3.below {w w1 : World} {b : Nat} {x y z : Value} (h : Var3 w b x y z) (hb : Below w.heap.size w w1) : Var3 w1 b x y z :=
  ⟨Nat.lt_of_lt_of_le h.lt hb.size, (hb.cell (by exact h.lt)).trans h.c0, (hb.cell (by exact h.lt)).trans h.c1, (hb.cell (by exact h.lt)).trans h.c2⟩
theorem Var3.new (w : World) (t : TypeId) (x y z : Value) : Var3 (w.alloc (.cells #[x, y, z] t)) w.heap.size x y z := ⟨by simp, by simp, by simp, by simp⟩
theorem Var3.alloc {w : World} {b : Nat} {x y z : Value} (h : Var3 w b x y z) (o : Obj) : Var3 (w.alloc o) b x y z := h.below (below1 w o)
end Go.Proofs.YtbfjhjkllaceaaaGreatDoor

/- The walk of FnExactUnpackTree. -/
namespace Go.Proofs.YtbfjhjkllaceaaaGreatDoor
open Go.ChangeShapes Go.WideShapes Go.ChangeAt Go.RowKit
set_option linter.unusedVariables false

theorem Var2.only {P : Nat → Prop} {w w' : World} {b : Nat} {cd : Int} {v : Value} (h : Var2 w b cd v) (ho : Only P w w') (hn : ¬ P b) : Var2 w' b cd v :=
  ⟨Nat.lt_of_lt_of_le h.lt ho.size, (ho.cell (p := ⟨b, 0, none⟩) h.lt hn).trans h.c0, (ho.cell (p := ⟨b, 1, none⟩) h.lt hn).trans h.c1⟩
theorem kAt_few (k : Nat) (l : List It) (h : ∀ i, (l.getD i dIt).attrs.length ≤ 5) : ∀ n, kAt k l n ≤ k + 14 * n
  | 0 => Nat.le_refl _
  | n + 1 => by
    have h1 := kAt_few k l h n
    have h2 := h n
    show kAt k l n + 4 + 2 * _ ≤ _
    omega
theorem unIts_few (xs : List Int) : (unIts xs).length ≤ 40 ∧ ∀ i, ((unIts xs).getD i dIt).attrs.length ≤ 5 := by
  rw [← pu_its]
  unfold puIts
  split
  · exact ⟨by simp, fun i => by simp [dIt]⟩
  · split
    · rename_i h
      obtain ⟨h40, hg⟩ := goodTree h.1
      refine ⟨h40, fun i => ?_⟩
      by_cases hi : i < (pI xs).length
      · exact (hg _ (getD_memI hi)).few
      · rw [List.getD_eq_getElem?_getD, List.getElem?_eq_none (by omega)]
        simp [dIt]
    · exact ⟨by simp, fun i => by simp [dIt]⟩

set_option maxRecDepth 100000 in
set_option maxHeartbeats 3200000 in
theorem fnExactUnpackTree_walk (a : Option Addr) (n c : Nat) (xs : List Int) (w : World) (hr : InRow w a n c xs) (hT : Tabs w) (sa : Addr) (hs : Sent w sa) :
    Calls Tryz.prog 4 #[.slice a n c] w fun e w' => e = .returned (.bool true) ∧ Below w.heap.size w w' := by
  have hmx := hr.max
  by_cases hn : n ≤ 1048576
  · have KT := Lib.hid (fun (W : World) (hW : Below w.heap.size w W) => toByteS_any a n c xs W hn (hr.below hW))
    obtain ⟨hl40, hfew⟩ := unIts_few xs
    have K1 := Lib.hid (fun (a : Option Addr) (n c : Nat) (W : World) (hn : n = xs.length) (hm : n ≤ 1048576) (h : Row W .u8 (.slice a n c) xs) => specUnpackTree_any a n c xs W hn hm h hr.byte)
    have K2 := Lib.hid (fun (a : Option Addr) (n c : Nat) (W : World) (hW : Below w.heap.size w W) (hn : n = xs.length) (hm : n ≤ 1048576) (h : Row W .u8 (.slice a n c) xs) => implUnpackTree_any a n c xs W sa (hs.kept hW) (tabs_kept hT hW) hn hm h hr.byte)
    rw [pu_code, pu_its] at K2
    have hxl : xs.length ≤ 1048576 := by have := hr.len; omega
    unfold UnRes at K1 K2
    generalize unCodeT xs = cd at *
    generalize unIts xs = L at *
    have hk40 := kAt_few 1 L hfew
    have HL40 := Lib.hid hl40
    have HFEW := Lib.hid hfew
    have HK := Lib.hid hk40
    clear hr hs hT hl40 hfew hk40
    unfold maxLen at hmx
    go_enter Tryz.func4, Tryz.ntmps4
    go_wp2_with fail
    refine (KT.out _ (Below.refl _ _)).mono ?_
    rintro e w1 ⟨a1, n1, c1, rfl, ho1, hb1⟩
    have R1 := Lib.hid (Row.of_owns ho1)
    have L1 := Lib.hid (owns_length ho1)
    have B1 := Lib.hid hb1
    clear ho1 hb1
    go_wp2_with fail
    refine (K1.out a1 n1 c1 _ L1.out (by have := L1.out; omega) R1.out).mono ?_
    rintro e w2 ⟨a2, n2, c2, rfl, hi2, hb2⟩
    have I2 := Lib.hid (hi2.its.below (below1 w2 (.cells #[.int .i64 cd, .slice a2 n2 c2] 31)))
    have VB := Lib.hid (Var2.new w2 31 cd (.slice a2 n2 c2))
    have B2 := Lib.hid ((below_then B1.out hb2).alloc (below_then B1.out hb2).size (.cells #[.int .i64 cd, .slice a2 n2 c2] 31))
    clear hi2 hb2
    go_wp2_with fail
    refine (KT.out _ B2.out).mono ?_
    rintro e w3 ⟨a3, n3, c3, rfl, ho3, hb3⟩
    have D3 := Lib.hid hb3
    have O3 := Lib.hid ho3
    have L3 := Lib.hid (owns_length ho3)
    have hs3 : w2.heap.size + 1 ≤ w3.heap.size := by have := hb3.size; simpa using this
    clear ho3 hb3
    go_wp2_with fail
    refine (K2.out a3 n3 c3 _ (below_then B2.out D3.out) L3.out (by have := L3.out; omega) (Row.of_owns O3.out)).mono ?_
    rintro e w4 ⟨a4, n4, c4, rfl, hi4, hb4⟩
    have hs4 : w3.heap.size ≤ w4.heap.size := hb4.size
    have D4 := Lib.hid ((below_then D3.out hb4).alloc (below_then D3.out hb4).size (.cells #[.int .i64 cd, .slice a4 n4 c4] 31))
    have O4 := Lib.hid (owns_below (owns_below O3.out hb4) (below1 w4 (.cells #[.int .i64 cd, .slice a4 n4 c4] 31)))
    have HOB := Lib.hid (fun k hk => (O3.out.lt k hk).2)
    have G4 := Lib.hid (hi4.below (below1 w4 (.cells #[.int .i64 cd, .slice a4 n4 c4] 31)))
    have VG := Lib.hid (Var2.new w4 31 cd (.slice a4 n4 c4))
    have V1 := VB.out.below D4.out
    have q0 := V1.lt
    have q1 := V1.c0
    have q2 := V1.c1
    clear hi4 hb4 V1
    go_wp2_with fail
    refine (eqTreeResult_true cd a4 a2 n4 n2 c4 c2 L _ G4.out.its (I2.out.below D4.out)).mono ?_
    rintro e w5 ⟨rfl, hb5⟩
    have E5 := Lib.hid hb5
    clear hb5 q0 q1 q2
    go_wp2_with fail
    refine (KT.out _ (below_then B2.out (below_then D4.out E5.out))).mono ?_
    rintro e w6 ⟨a6, n6, c6, rfl, ho6, hb6⟩
    have E6 := Lib.hid (below_then E5.out hb6)
    have R6 := Lib.hid (Row.of_owns ho6)
    have O6 := Lib.hid (owns_below O4.out E6.out)
    clear ho6 hb6
    go_wp2_with fail
    refine (eqByteS_any _ _ xs xs _ (Row.of_owns O6.out) R6.out).mono ?_
    rw [decide_eq_true rfl]
    rintro e w7 ⟨rfl, nd, rfl⟩
    have E7 : Hid (Below (w4.alloc (.cells #[.int .i64 cd, .slice a4 n4 c4] 31)).heap.size (w4.alloc (.cells #[.int .i64 cd, .slice a4 n4 c4] 31)) (w6.drewN nd)) := Lib.hid (below_drewN E6.out nd)
    have O7 := Lib.hid (owns_below O4.out E7.out)
    generalize w6.drewN nd = w7 at *
    go_wp2_with fail
    refine (markByteS_any _ (.slice a3 n3 c3) n3 xs 1 w7 (by decide) (by have := L3.out; omega) O7.out).mono ?_
    rintro e w8 ⟨rfl, ho8, hg8⟩
    have D8 := Lib.hid ((below_then D4.out E7.out).grown hg8 (below_then D4.out E7.out).size (fun k hk => (O7.out.lt k hk).1))
    have V2 := Lib.hid ((VG.out.below E7.out).grown hg8 (fun e => by have := HOB.out _ e.symm; omega))
    have G8 := Lib.hid ((G4.out.below E7.out).only (Only.grown hg8) (fun i h1 h2 e => by have := HOB.out _ e.symm; omega))
    have V1 := VB.out.below D8.out
    have q0 := V1.lt
    have q1 := V1.c0
    have q2 := V1.c1
    have q3 := V2.out.lt
    have q4 := V2.out.c0
    have q5 := V2.out.c1
    have hk0 : (0 : Int) ≤ ((1 + n3 : Nat) : Int) := by omega
    generalize ((1 + n3 : Nat) : Int) = kk at *
    clear ho8 hg8 V1
    go_wp2_with fail
    refine (eqTreeResult_true cd a4 a2 n4 n2 c4 c2 L _ G8.out.its (I2.out.below D8.out)).mono ?_
    rintro e w9 ⟨rfl, hb9⟩
    have D9 := Lib.hid (below_then D8.out hb9)
    have V29 := V2.out.below hb9
    have G9 := Lib.hid (G8.out.below hb9)
    have HV := Lib.hid V29
    clear hb9 q0 q1 q2 q3 q4 q5 V29
    have q3 := HV.out.lt
    have q4 := HV.out.c0
    have q5 := HV.out.c1
    go_wp2_with fail
    refine (markTreeResult_any cd _ _ a4 n4 c4 1 L w9 (by decide) (by have h1 := HK.out n4; have h2 := G9.out.len; have h3 := HL40.out; omega) (fun i hi => by have := HFEW.out i; omega) G9.out).mono ?_
    rintro e w10 ⟨rfl, hm10, ho10⟩
    have D10 := Lib.hid (Only.under D9.out (Nat.le_refl _) ho10 (fun i hi => by simp; omega))
    have V10 := Lib.hid (HV.out.only ho10 (fun hi => by omega))
    have M10 := Lib.hid hm10
    clear hm10 ho10 q3 q4 q5
    have q3 := V10.out.lt
    have q4 := V10.out.c0
    have q5 := V10.out.c1
    go_wp2_with fail
    refine (heldTreeResult_any cd a4 n4 c4 1 L w10 (by decide) (by have h1 := HK.out n4; have h2 := G9.out.len; have h3 := HL40.out; omega) (fun i hi => by have := HFEW.out i; omega) G9.out.len M10.out.its).mono ?_
    rintro e w11 ⟨rfl, hb11⟩
    have hm0 : (0 : Int) ≤ ((kAt 1 L n4 : Nat) : Int) := by omega
    have D11 := Lib.hid (below_then D10.out hb11)
    have V11 := Lib.hid (V10.out.below hb11)
    have M11 := Lib.hid (M10.out.below hb11)
    have KH := Lib.hid (fun (W : World) (hh : Below w11.heap.size w11 W) => heldTreeResult_any cd a4 n4 c4 1 L W (by decide) (by have h1 := HK.out n4; have h2 := G9.out.len; have h3 := HL40.out; omega) (fun i hi => by have := HFEW.out i; omega) G9.out.len (M11.out.its.below hh))
    generalize ((kAt 1 L n4 : Nat) : Int) = mm at *
    clear hb11 q3 q4 q5
    go_wp2_with fail
    refine (KT.out _ (below_then B2.out D11.out)).mono ?_
    rintro e w12 ⟨a12, n12, c12, rfl, ho12, hb12⟩
    have F12 := Lib.hid hb12
    have R12 := Lib.hid (Row.of_owns ho12)
    have L12 := Lib.hid (owns_length ho12)
    clear ho12 hb12
    go_wp2_with fail
    refine (K2.out a12 n12 c12 _ (below_then B2.out (below_then D11.out F12.out)) L12.out (by have := L12.out; omega) R12.out).mono ?_
    rintro e w13 ⟨a13, n13, c13, rfl, hi13, hb13⟩
    have F13 := Lib.hid ((below_then F12.out hb13).alloc (below_then F12.out hb13).size (.cells #[.int .i64 cd, .slice a13 n13 c13] 31))
    have I13 := Lib.hid (hi13.its.below (below1 w13 (.cells #[.int .i64 cd, .slice a13 n13 c13] 31)))
    have V1 := VB.out.below (below_then D11.out F13.out)
    have q0 := V1.lt
    have q1 := V1.c0
    have q2 := V1.c1
    clear hi13 hb13 V1
    go_wp2_with fail
    refine (eqTreeResult_true cd a13 a2 n13 n2 c13 c2 L _ I13.out (I2.out.below (below_then D11.out F13.out))).mono ?_
    rintro e w14 ⟨rfl, hb14⟩
    have F14 := Lib.hid (below_then F13.out hb14)
    have V14 := V11.out.below F14.out
    have q3 := V14.lt
    have q4 := V14.c0
    have q5 := V14.c1
    clear hb14 q0 q1 q2 V14
    go_wp2_with fail
    refine (KH.out _ F14.out).mono ?_
    rintro e w15 ⟨rfl, hb15⟩
    have BB := Lib.hid (below_then (below_then B2.out (below_then D11.out F14.out)) hb15)
    clear hb15 q3 q4 q5
    go_wp2
    go_ret
    exact ⟨rfl, BB.out⟩
  · unfold maxLen at hmx
    go_enter Tryz.func4, Tryz.ntmps4
    go_wp2
    go_ret
    exact ⟨rfl, Below.refl _ _⟩
end Go.Proofs.YtbfjhjkllaceaaaGreatDoor
