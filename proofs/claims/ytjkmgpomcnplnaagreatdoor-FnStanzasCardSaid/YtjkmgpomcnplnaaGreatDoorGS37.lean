/- The program's laidFlat. -/
import Derived.Test.YtjkmgpomcnplnaaGreatDoorGS24
import Derived.Test.YtjkmgpomcnplnaaGreatDoorGS27
import Derived.Test.YtjkmgpomcnplnaaGreatDoorGS15
import Derived.Test.YtjkmgpomcnplnaaGreatDoorGS16
import Derived.Test.YtjkmgpomcnplnaaGreatDoorGS2
import Derived.Test.YtjkmgpomcnplnaaGreatDoorGS1
import Derived.Test.YtjkmgpomcnplnaaGreatDoorGS29
namespace Go.Proofs.YtjkmgpomcnplnaaGreatDoor
open Go.ChangeShapes Go.WideShapes Go.ChangeAt Go.RowKit
set_option linter.unusedSimpArgs false
set_option linter.unusedVariables false
structure ItOk (w : World) (b o : Nat) (x : It) : Prop where
  is : ItAt w b o x
  cap : ∃ a4 n4 c4, w.cell? ⟨b, o + 4, none⟩ = some (.slice a4 n4 c4) ∧ (a4 = none → c4 = 0) ∧ AtsAt w a4 n4 c4 x.attrs
theorem ItOk.below {w w' : World} {b o : Nat} {x : It} (h : ItOk w b o x) (hb : Below w.heap.size w w') : ItOk w' b o x := by
  obtain ⟨a4, n4, c4, h1, h2, h3⟩ := h.cap
  exact ⟨h.is.below hb, a4, n4, c4, (hb.cell (p := ⟨b, o + 4, none⟩) h.is.lt).trans h1, h2, h3.below hb⟩
theorem only_behind {Q P : Nat → Prop} {W0 w w' : World} (h : Only Q W0 w) (k : Only P w w') (hP : ∀ i, P i → W0.heap.size ≤ i) : Only Q W0 w' :=
  ⟨k.os.trans h.os, k.tape.trans h.tape, k.output.trans h.output, Nat.le_trans h.size k.size, fun i hi hq => (k.block i (Nat.lt_of_lt_of_le hi h.size) fun hp => by have := hP i hp; omega).trans (h.block i hi hq)⟩
theorem grown_two {w w1 w2 : World} {v v1 v2 : Value} (h : w.grownBy w1 v.ownBlock) (h2 : v1.ownBlock = v.ownBlock ∨ ∃ g, v1.ownBlock = some g ∧ w.heap.size ≤ g) (k : w1.grownBy w2 v1.ownBlock) (k2 : v2.ownBlock = v1.ownBlock ∨ ∃ g, v2.ownBlock = some g ∧ w1.heap.size ≤ g) :
    w.grownBy w2 v.ownBlock ∧ (v2.ownBlock = v.ownBlock ∨ ∃ g, v2.ownBlock = some g ∧ w.heap.size ≤ g) := by
  refine ⟨⟨k.os.trans h.os, k.tape.trans h.tape, k.output.trans h.output, Nat.le_trans h.size k.size, fun i hi hne => (k.block i (Nat.lt_of_lt_of_le hi h.size) ?_).trans (h.block i hi hne)⟩, ?_⟩
  · intro e
    rcases h2 with h2 | ⟨g, h2, hg⟩
    · exact hne (e.trans h2)
    · rw [h2] at e
      simp only [Option.some.injEq] at e
      omega
  · rcases k2 with k2 | ⟨g, k2, hg⟩
    · rcases h2 with h2 | ⟨g, h2, hg⟩
      · exact .inl (k2.trans h2)
      · exact .inr ⟨g, k2.trans h2, hg⟩
    · exact .inr ⟨g, k2, Nat.le_trans h.size hg⟩
theorem grown_of_belowL {w w1 : World} {r : Option Nat} (h : Below w.heap.size w w1) : w.grownBy w1 r := ⟨h.os, h.tape, h.output, h.size, fun i hi _ => h.block i hi⟩
def LaidC (W0 : World) (Q : Nat → Prop) (l : List It) (nb : Nat → Nat) (k : Nat) : Prop :=
  ∀ (B : Nat) (w : World) (a : Option Addr) (n c : Nat) (L : List It) (A : Nat → Option Addr) (N C : Nat → Nat) (d : Int), W0.heap.size ≤ B → B ≤ w.heap.size → -100 ≤ d - dp l k → d - dp l k ≤ 100 → n + (endL l k - k) ≤ 1000 → Only Q W0 w → GrowIts w B (.slice a n c) n L A N C →
    Calls Tryz.prog 76 #[.pointer (some ⟨nb k, 0, none⟩), .slice a n c, .int .i64 d] w (GrownRes w B (.slice a n c) (L ++ movedTo l k (endL l k) (d - dp l k)))
theorem moved_one (l : List It) (k : Nat) (d : Int) : movedTo l k (k + 1) (d - dp l k) = [⟨d, (l.getD k dIt).text, (l.getD k dIt).space, (l.getD k dIt).name, (l.getD k dIt).attrs⟩] := by
  have h := movedTo_step l (Nat.le_refl k) (d - dp l k)
  have e : movedTo l k k (d - dp l k) = [] := by simp [movedTo]
  rw [h, e, List.nil_append]
  have : (l.getD k dIt).depth + (d - dp l k) = d := by unfold dp; omega
  rw [this]
set_option maxRecDepth 100000 in
set_option maxHeartbeats 1600000 in
theorem laid_step {W0 : World} {Q : Nat → Prop} {BN bi oi : Nat} {l : List It} {nb : Nat → Nat} {KA : Nat → Option Addr} {KN KC : Nat → Nat} (hR : Rises l) (hN : Nodes W0 BN bi oi l l.length nb KA KN KC (kidsUp l l.length)) (hQ : ∀ i, BN ≤ i → ¬ Q i)
    (hI : ∀ W, Only Q W0 W → ∀ i, i < l.length → ItOk W bi (oi + i * 5) (l.getD i dIt)) (k : Nat) (hk : k < l.length) (HK : ∀ x, x < l.length → kidB l k x = true → LaidC W0 Q l nb x) : LaidC W0 Q l nb k := by
  intro B w a n c L A N C d hB hBw hd1 hd2 hn hO hG
  obtain ⟨i0, hi0, hz0, hi1, hz2⟩ := info_parts itemInfo
  have HN := Lib.hid (fun W (hW : Only Q W0 W) => hN.only hW hQ)
  have hNw := HN.out w hO
  have p0 := hNw.c0 k hk
  have hlt := (hNw.lt k hk).2
  have HI := Lib.hid hI
  have HG := Lib.hid hG
  have HO := Lib.hid hO
  have hok := hI w hO k hk
  have hgood := hR.good k hk
  have hb := endL_bounds hk
  have HRI := Lib.hid hR
  have HHK := Lib.hid HK
  obtain ⟨a4, n4, c4, d4, hnil4, hat4⟩ := hok.cap
  have hal : (l.getD k dIt).attrs.length ≤ 1048576 := Nat.le_trans (atts_small hgood).1 (by decide)
  have h1000 : n ≤ 999 := by omega
  have HM1 := Lib.hid (moved_one l k d)
  have hp0 := hR.bd k hk
  have HOFF : Hid ((Value.slice a n c).ownBlock ≠ some (nb k)) := Lib.hid fun e => by have h1 := (hG.row.lt _ e).1; have h2 := (hN.lt k hk).2; omega
  have hit := hok.is
  clear hR hN hQ hI HK hO hG hNw
  unfold GrownRes
  unfold partV at p0
  cases hxn : (l.getD k dIt).name.toList.isEmpty
  · have hx1 := item_elem hgood hxn
    have km := placedE_any bi (oi + k * 5) (l.getD k dIt) d w hal _ _ _ d4 hnil4 hat4 hit
    rw [← hx1] at km
    have KM := Lib.hid km
    rw [hxn, if_neg (by simp)] at p0
    clear km hx1 hxn hit hok hgood hat4 d4 hal
    generalize l.getD k dIt = x at KM HM1
    obtain ⟨xd, xt, xs, xn, xa⟩ := x
    dsimp only at KM HM1
    unfold ItNewRes at KM
    dsimp only at KM
    have hm := methPlacedE
    have ha := aheadE
    go_enter Tryz.func76, Tryz.ntmps76
    go_wp2_with fail
    refine KM.out.mono ?_
    rintro e w6 ⟨a5, n5, c5, rfl, hat5, hnil5, hb6⟩
    have HG6 := Lib.hid (HG.out.below hb6)
    have hs6 := hb6.size
    go_wp2_with (at_builtin; refine wpList_append_own_at _ rfl _ _ 24 rfl B 54 i0 (.agg #[.int .i64 0, .string ByteArray.empty, .string ByteArray.empty, .string ByteArray.empty, .slice none 0 0]) 5 80 Tryz.underlying24 hi0 hz0 hi1 hz2 rfl (by decide) _ n _ rfl (HG6.out.row.alloc _) ⟨w6.heap.size, 0, none⟩ 1 1 [.int .i64 d, .string xt, .string xs, .string xn, .slice a5 n5 c5] rfl rfl (fun j u hj => itemCells w6 _ _ _ _ _ j u hj) (by intro v hv; simp at hv; rcases hv with rfl | rfl | rfl | rfl | rfl <;> rfl) (by unfold maxLen; omega) (by omega) (by simp; omega) ?_)
    intro v' w7 hown' hgr _ hat7
    obtain ⟨a7, c7, rfl⟩ := owns_slice hown'
    have HG7 : Hid (GrowIts w7 B (.slice a7 (n + 1) c7) (n + 1) (L ++ movedTo l k (k + 1) (d - dp l k)) (putA L.length a5 A) (putA L.length n5 N) (putA L.length c5 C)) := Lib.hid (by
      rw [HM1.out]
      have h5 := hat5.only (Only.below (P := fun _ => False) (below1 w6 (.cells #[.int .i64 d, .string xt, .string xs, .string xn, .slice a5 n5 c5] 54))) fun _ _ _ h => h
      refine HG.out.snoc (x := ⟨d, xt, xs, xn, xa⟩) (w0 := w6.alloc (.cells #[.int .i64 d, .string xt, .string xs, .string xn, .slice a5 n5 c5] 54)) (below_then hb6 (below1 _ _)) ⟨h5.ats, h5.own.imp id fun ⟨b5, g1, g2, g3, g4⟩ => ⟨b5, g1, g2, by simp; omega, g4⟩⟩ hnil5 hBw hown' hgr ?_
      rcases hat7 with e | e
      · exact .inl e
      · exact .inr ⟨_, e, by simp⟩)
    have HR7 : Hid (w.grownBy w7 (Value.slice a n c).ownBlock ∧ ((Value.slice a7 (n + 1) c7).ownBlock = (Value.slice a n c).ownBlock ∨ ∃ g, (Value.slice a7 (n + 1) c7).ownBlock = some g ∧ w.heap.size ≤ g)) := Lib.hid ⟨grown_trans_row (grown_of_belowL hb6) (grown_trans_row (grown_made (w := w6) (.cells #[.int .i64 d, .string xt, .string xs, .string xn, .slice a5 n5 c5] 54) _) hgr), hat7.imp id fun e => ⟨_, e, by have h1 := hb6.size; simp; omega⟩⟩
    have HO7 := Lib.hid (only_behind HO.out (Only.grown HR7.out.1) (fun i hi => by have := (HG.out.row.lt i hi.symm).1; omega))
    have hN7 := HN.out w7 HO7.out
    have p2 := hN7.c2 k hk
    obtain ⟨hkn, _⟩ := hN7.kidAt hk
    have HKN := Lib.hid hkn
    have HBL := Lib.hid (HG.out.row.lt)
    have HL0 := Lib.hid HG.out.len
    clear hkn hN7 HG hown' hgr hat7 hat5 hnil5 hb6 HG6 hs6 hm ha KM HM1 HOFF p0 HI
    obtain ⟨m, hm⟩ : ∃ m, KN k = m := ⟨_, rfl⟩
    rw [hm] at p2 HKN
    have HM := Lib.hid hm
    clear hm
    obtain ⟨ka, hka⟩ : ∃ ka, KA k = ka := ⟨_, rfl⟩
    obtain ⟨kc, hkc⟩ : ∃ kc, KC k = kc := ⟨_, rfl⟩
    rw [hka, hkc] at p2
    have HKA := Lib.hid hka
    have HKC := Lib.hid hkc
    clear hka hkc
    have hm1 : m ≤ 40 := by have h1 := kidsUp_len l l.length k; have h2 := HRI.out.few; have h3 := HKN.out; omega
    go_wp2
    go_loopw [1, 23] (fun v i wr => ∃ (j x n' : Nat) (a' : Option Addr) (c' : Nat) (A' : Nat → Option Addr) (N' C' : Nat → Nat), i = .int .i64 j ∧ v = .slice a' n' c' ∧ j ≤ m ∧ Hid (LaidSt l k j x) ∧ GrowIts wr B (.slice a' n' c') n' (L ++ movedTo l k x (d - dp l k)) A' N' C' ∧ w.grownBy wr (Value.slice a n c).ownBlock ∧ ((Value.slice a' n' c').ownBlock = (Value.slice a n c).ownBlock ∨ ∃ g, (Value.slice a' n' c').ownBlock = some g ∧ w.heap.size ≤ g)) (fun _ i _ => m - (intOf i).toNat)
    case atStart => exact ⟨0, k + 1, n + 1, _, _, _, _, _, rfl, rfl, Nat.zero_le _, Lib.hid (laid_start HRI.out hk), HG7.out, HR7.out.1, HR7.out.2⟩
    case round =>
      clear p2
      obtain ⟨j, x, n', a', c', A', N', C', rfl, rfl, hj, HX, hg, hgr, hat⟩ := hrel
      have HGR := Lib.hid hgr
      have HAT := Lib.hid hat
      have HG := Lib.hid hg
      have hw : w.heap.size ≤ wr.heap.size := hgr.size
      have HOR := Lib.hid (only_behind HO.out (Only.grown hgr) (fun i hi => by have := (HBL.out i hi.symm).1; omega))
      have hNR := HN.out wr HOR.out
      have p2 := hNR.c2 k hk
      have hrow := (hNR.kidAt hk).2
      rw [HM.out] at p2 hrow
      rw [HKA.out, HKC.out] at p2
      rw [HKA.out] at hrow
      have hlen : n' = n + (x - k) := by have h1 := hg.len; rw [List.length_append, HL0.out, movedTo_length] at h1; exact h1.symm
      have HLEN := Lib.hid hlen
      clear hg hgr hat hNR hlen
      by_cases hjm : j < m
      · obtain ⟨x1, x2, x3, x4, x5, x6, x7, x8, x9⟩ := laid_more HRI.out hk HX.out (by have := HKN.out; omega)
        obtain ⟨g, rfl, hgl, hcs⟩ := hrow.resolve_left (by omega)
        have e1 := (hcs j hjm).1
        rw [x4] at e1
        unfold ptrN at e1
        have KK := Lib.hid (HHK.out x x2 x3 B wr a' n' c' _ A' N' C' (d + 1) hB (by omega) (by omega) (by omega) (by have := HLEN.out; omega) HOR.out HG.out)
        rw [show d + 1 - dp l x = d - dp l k by omega, List.append_assoc, movedTo_join l (by omega) x7] at KK
        have HX2 := Lib.hid x5
        have q0 : (j : Int) < (m : Int) := by omega
        have hw1 : wrap64 (d + 1) = d + 1 := IntWalk.wrap64_in _ (by omega)
        unfold GrownRes at KK
        clear hrow hcs x1 x3 x4 x5 x6
        go_wp2_with fail
        refine KK.out.mono ?_
        rintro e w8 ⟨a8, n8, c8, A8, N8, C8, rfl, hg8, hgr8, hat8⟩
        have HG8 := Lib.hid hg8
        have HGR8 : Hid (w.grownBy w8 (Value.slice a n c).ownBlock ∧ ((Value.slice a8 n8 c8).ownBlock = (Value.slice a n c).ownBlock ∨ ∃ g, (Value.slice a8 n8 c8).ownBlock = some g ∧ w.heap.size ≤ g)) := Lib.hid (grown_two HGR.out HAT.out hgr8 hat8)
        clear hg8 hgr8 hat8
        go_wp2
        go_roundw
        case rel => exact ⟨j + 1, endL l x, n8, a8, c8, A8, N8, C8, by go_num, rfl, by omega, HX2.out, HG8.out, HGR8.out.1, HGR8.out.2⟩
        case measure => simp [intOf]; omega
      · obtain rfl := laid_last HRI.out hk HX.out (by have := HKN.out; omega)
        obtain rfl : j = m := by omega
        go_wp2
        go_ret
        exact ⟨_, _, _, _, _, _, rfl, HG.out, HGR.out, HAT.out⟩
  · obtain ⟨hx1, hx2, hx3⟩ := item_text hgood hxn
    have km := placedT_any bi (oi + k * 5) (l.getD k dIt) d w hit
    have ex : (⟨d, (l.getD k dIt).text, ⟨#[]⟩, ⟨#[]⟩, []⟩ : It) = ⟨d, (l.getD k dIt).text, (l.getD k dIt).space, (l.getD k dIt).name, (l.getD k dIt).attrs⟩ := by rw [hx1, hx2, hx3]
    rw [ex] at km
    have KM := Lib.hid km
    rw [hxn, if_pos rfl] at p0
    clear km hx1 hx2 hx3 ex hxn hit hok hgood hat4 d4 hal
    generalize l.getD k dIt = x at KM HM1
    obtain ⟨xd, xt, xs, xn, xa⟩ := x
    dsimp only at KM HM1
    unfold ItNewRes at KM
    dsimp only at KM
    have hm := methPlacedT
    have ha := aheadT
    go_enter Tryz.func76, Tryz.ntmps76
    go_wp2_with fail
    refine KM.out.mono ?_
    rintro e w6 ⟨a5, n5, c5, rfl, hat5, hnil5, hb6⟩
    have HG6 := Lib.hid (HG.out.below hb6)
    have hs6 := hb6.size
    go_wp2_with (at_builtin; refine wpList_append_own_at _ rfl _ _ 24 rfl B 54 i0 (.agg #[.int .i64 0, .string ByteArray.empty, .string ByteArray.empty, .string ByteArray.empty, .slice none 0 0]) 5 80 Tryz.underlying24 hi0 hz0 hi1 hz2 rfl (by decide) _ n _ rfl (HG6.out.row.alloc _) ⟨w6.heap.size, 0, none⟩ 1 1 [.int .i64 d, .string xt, .string xs, .string xn, .slice a5 n5 c5] rfl rfl (fun j u hj => itemCells w6 _ _ _ _ _ j u hj) (by intro v hv; simp at hv; rcases hv with rfl | rfl | rfl | rfl | rfl <;> rfl) (by unfold maxLen; omega) (by omega) (by simp; omega) ?_)
    intro v' w7 hown' hgr _ hat7
    obtain ⟨a7, c7, rfl⟩ := owns_slice hown'
    have HG7 : Hid (GrowIts w7 B (.slice a7 (n + 1) c7) (n + 1) (L ++ movedTo l k (k + 1) (d - dp l k)) (putA L.length a5 A) (putA L.length n5 N) (putA L.length c5 C)) := Lib.hid (by
      rw [HM1.out]
      have h5 := hat5.only (Only.below (P := fun _ => False) (below1 w6 (.cells #[.int .i64 d, .string xt, .string xs, .string xn, .slice a5 n5 c5] 54))) fun _ _ _ h => h
      refine HG.out.snoc (x := ⟨d, xt, xs, xn, xa⟩) (w0 := w6.alloc (.cells #[.int .i64 d, .string xt, .string xs, .string xn, .slice a5 n5 c5] 54)) (below_then hb6 (below1 _ _)) ⟨h5.ats, h5.own.imp id fun ⟨b5, g1, g2, g3, g4⟩ => ⟨b5, g1, g2, by simp; omega, g4⟩⟩ hnil5 hBw hown' hgr ?_
      rcases hat7 with e | e
      · exact .inl e
      · exact .inr ⟨_, e, by simp⟩)
    have HR7 : Hid (w.grownBy w7 (Value.slice a n c).ownBlock ∧ ((Value.slice a7 (n + 1) c7).ownBlock = (Value.slice a n c).ownBlock ∨ ∃ g, (Value.slice a7 (n + 1) c7).ownBlock = some g ∧ w.heap.size ≤ g)) := Lib.hid ⟨grown_trans_row (grown_of_belowL hb6) (grown_trans_row (grown_made (w := w6) (.cells #[.int .i64 d, .string xt, .string xs, .string xn, .slice a5 n5 c5] 54) _) hgr), hat7.imp id fun e => ⟨_, e, by have h1 := hb6.size; simp; omega⟩⟩
    have HO7 := Lib.hid (only_behind HO.out (Only.grown HR7.out.1) (fun i hi => by have := (HG.out.row.lt i hi.symm).1; omega))
    have hN7 := HN.out w7 HO7.out
    have p2 := hN7.c2 k hk
    obtain ⟨hkn, _⟩ := hN7.kidAt hk
    have HKN := Lib.hid hkn
    have HBL := Lib.hid (HG.out.row.lt)
    have HL0 := Lib.hid HG.out.len
    clear hkn hN7 HG hown' hgr hat7 hat5 hnil5 hb6 HG6 hs6 hm ha KM HM1 HOFF p0 HI
    obtain ⟨m, hm⟩ : ∃ m, KN k = m := ⟨_, rfl⟩
    rw [hm] at p2 HKN
    have HM := Lib.hid hm
    clear hm
    obtain ⟨ka, hka⟩ : ∃ ka, KA k = ka := ⟨_, rfl⟩
    obtain ⟨kc, hkc⟩ : ∃ kc, KC k = kc := ⟨_, rfl⟩
    rw [hka, hkc] at p2
    have HKA := Lib.hid hka
    have HKC := Lib.hid hkc
    clear hka hkc
    have hm1 : m ≤ 40 := by have h1 := kidsUp_len l l.length k; have h2 := HRI.out.few; have h3 := HKN.out; omega
    go_wp2
    go_loopw [1, 23] (fun v i wr => ∃ (j x n' : Nat) (a' : Option Addr) (c' : Nat) (A' : Nat → Option Addr) (N' C' : Nat → Nat), i = .int .i64 j ∧ v = .slice a' n' c' ∧ j ≤ m ∧ Hid (LaidSt l k j x) ∧ GrowIts wr B (.slice a' n' c') n' (L ++ movedTo l k x (d - dp l k)) A' N' C' ∧ w.grownBy wr (Value.slice a n c).ownBlock ∧ ((Value.slice a' n' c').ownBlock = (Value.slice a n c).ownBlock ∨ ∃ g, (Value.slice a' n' c').ownBlock = some g ∧ w.heap.size ≤ g)) (fun _ i _ => m - (intOf i).toNat)
    case atStart => exact ⟨0, k + 1, n + 1, _, _, _, _, _, rfl, rfl, Nat.zero_le _, Lib.hid (laid_start HRI.out hk), HG7.out, HR7.out.1, HR7.out.2⟩
    case round =>
      clear p2
      obtain ⟨j, x, n', a', c', A', N', C', rfl, rfl, hj, HX, hg, hgr, hat⟩ := hrel
      have HGR := Lib.hid hgr
      have HAT := Lib.hid hat
      have HG := Lib.hid hg
      have hw : w.heap.size ≤ wr.heap.size := hgr.size
      have HOR := Lib.hid (only_behind HO.out (Only.grown hgr) (fun i hi => by have := (HBL.out i hi.symm).1; omega))
      have hNR := HN.out wr HOR.out
      have p2 := hNR.c2 k hk
      have hrow := (hNR.kidAt hk).2
      rw [HM.out] at p2 hrow
      rw [HKA.out, HKC.out] at p2
      rw [HKA.out] at hrow
      have hlen : n' = n + (x - k) := by have h1 := hg.len; rw [List.length_append, HL0.out, movedTo_length] at h1; exact h1.symm
      have HLEN := Lib.hid hlen
      clear hg hgr hat hNR hlen
      by_cases hjm : j < m
      · obtain ⟨x1, x2, x3, x4, x5, x6, x7, x8, x9⟩ := laid_more HRI.out hk HX.out (by have := HKN.out; omega)
        obtain ⟨g, rfl, hgl, hcs⟩ := hrow.resolve_left (by omega)
        have e1 := (hcs j hjm).1
        rw [x4] at e1
        unfold ptrN at e1
        have KK := Lib.hid (HHK.out x x2 x3 B wr a' n' c' _ A' N' C' (d + 1) hB (by omega) (by omega) (by omega) (by have := HLEN.out; omega) HOR.out HG.out)
        rw [show d + 1 - dp l x = d - dp l k by omega, List.append_assoc, movedTo_join l (by omega) x7] at KK
        have HX2 := Lib.hid x5
        have q0 : (j : Int) < (m : Int) := by omega
        have hw1 : wrap64 (d + 1) = d + 1 := IntWalk.wrap64_in _ (by omega)
        unfold GrownRes at KK
        clear hrow hcs x1 x3 x4 x5 x6
        go_wp2_with fail
        refine KK.out.mono ?_
        rintro e w8 ⟨a8, n8, c8, A8, N8, C8, rfl, hg8, hgr8, hat8⟩
        have HG8 := Lib.hid hg8
        have HGR8 : Hid (w.grownBy w8 (Value.slice a n c).ownBlock ∧ ((Value.slice a8 n8 c8).ownBlock = (Value.slice a n c).ownBlock ∨ ∃ g, (Value.slice a8 n8 c8).ownBlock = some g ∧ w.heap.size ≤ g)) := Lib.hid (grown_two HGR.out HAT.out hgr8 hat8)
        clear hg8 hgr8 hat8
        go_wp2
        go_roundw
        case rel => exact ⟨j + 1, endL l x, n8, a8, c8, A8, N8, C8, by go_num, rfl, by omega, HX2.out, HG8.out, HGR8.out.1, HGR8.out.2⟩
        case measure => simp [intOf]; omega
      · obtain rfl := laid_last HRI.out hk HX.out (by have := HKN.out; omega)
        obtain rfl : j = m := by omega
        go_wp2
        go_ret
        exact ⟨_, _, _, _, _, _, rfl, HG.out, HGR.out, HAT.out⟩
theorem laid_all {W0 : World} {Q : Nat → Prop} {BN bi oi : Nat} {l : List It} {nb : Nat → Nat} {KA : Nat → Option Addr} {KN KC : Nat → Nat} (hR : Rises l) (hN : Nodes W0 BN bi oi l l.length nb KA KN KC (kidsUp l l.length)) (hQ : ∀ i, BN ≤ i → ¬ Q i)
    (hI : ∀ W, Only Q W0 W → ∀ i, i < l.length → ItOk W bi (oi + i * 5) (l.getD i dIt)) : ∀ (f k : Nat), k < l.length → 6 ≤ dp l k + f → LaidC W0 Q l nb k
  | 0, k, hk, hf => laid_step hR hN hQ hI k hk fun x hx hkb => by
    have h1 := (kid_pos1 hR hk hx hkb).2.2.2.2.1
    have h2 := (hR.bd x hx).2
    omega
  | f + 1, k, hk, hf => laid_step hR hN hQ hI k hk fun x hx hkb => laid_all hR hN hQ hI f x hx (by
    have h1 := (kid_pos1 hR hk hx hkb).2.2.2.2.1
    omega)
theorem laidFlat_any {W0 : World} {Q : Nat → Prop} {BN bi oi : Nat} {l : List It} {nb : Nat → Nat} {KA : Nat → Option Addr} {KN KC : Nat → Nat} (hR : Rises l) (hN : Nodes W0 BN bi oi l l.length nb KA KN KC (kidsUp l l.length)) (hQ : ∀ i, BN ≤ i → ¬ Q i)
    (hI : ∀ W, Only Q W0 W → ∀ i, i < l.length → ItOk W bi (oi + i * 5) (l.getD i dIt)) (k : Nat) (hk : k < l.length) : LaidC W0 Q l nb k := laid_all hR hN hQ hI 6 k hk (by have := (hR.bd k hk).1; omega)
end Go.Proofs.YtjkmgpomcnplnaaGreatDoor
