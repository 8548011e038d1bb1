/- Texts laid together, part 12. -/
import Derived.Test.YtbfjhjkllaceaaaGreatDoorGA11
import Derived.Deep.RegionHeld3

/- The program's frame of a tree. -/
namespace Go.Proofs.YtbfjhjkllaceaaaGreatDoor
open Go.ChangeShapes Go.WideShapes Go.ChangeAt Go.RowKit
set_option linter.unusedVariables false

/-- a number of a list, in bytes -/
def vI (x : Int) : List Int := vput x.toNat
theorem vI_atts (F : List ByteArray) (l : List At) : (l.flatMap (numAt F)).flatMap vI = l.flatMap (attB F) := by
  induction l with
  | nil => rfl
  | cons a l ih =>
    rw [List.flatMap_cons, List.flatMap_append, ih, List.flatMap_cons]
    simp [numAt, vI, attB, refB]
theorem vI_it (F : List ByteArray) (x : It) : (numIt F x).flatMap vI = itB F x := by
  cases he : x.name.toList.isEmpty
  · rw [numIt_elem he, itB_elem he]
    unfold numAts
    simp only [List.flatMap_append, List.flatMap_cons, List.flatMap_nil, List.append_nil, vI_atts]
    unfold vI refB
    rw [show vput (1 : Int).toNat = [1] by rw [vput_small (by decide)]; rfl, Int.toNat_natCast]
    simp
  · rw [numIt_text he, itB_text he]
    simp only [List.flatMap_append, List.flatMap_cons, List.flatMap_nil, List.append_nil]
    unfold vI refB
    rw [show vput (0 : Int).toNat = [0] by rw [vput_small (by decide)]; rfl]
    simp
theorem vI_its (F : List ByteArray) (l : List It) : (numIts F l).flatMap vI = vput l.length ++ l.flatMap (itB F) := by
  have h : ∀ l : List It, (l.flatMap (numIt F)).flatMap vI = l.flatMap (itB F) := by
    intro l
    induction l with
    | nil => rfl
    | cons x l ih => rw [List.flatMap_cons, List.flatMap_append, ih, vI_it, List.flatMap_cons]
  unfold numIts
  rw [List.flatMap_cons, h]
  unfold vI
  rw [Int.toNat_natCast]
theorem packL_nums (l : List It) : packL l = vput (strsOf l).length ++ (strsOf l).flatMap strB ++ (numIts (strsOf l) l).flatMap vI := by
  rw [vI_its]
  unfold packL
  simp
/-- no number is below 0, or too large -/
theorem numIts_bd {l : List It} (hl : l.length ≤ 40) (hg : ∀ x ∈ l, GoodIt x) : ∀ z ∈ numIts (strsOf l) l, 0 ≤ z ∧ z ≤ 100000 := by
  have hc := goodCount hl hg
  have hix : ∀ t, t ∈ strsOf l → 0 ≤ hasIx (strsOf l) t ∧ hasIx (strsOf l) t ≤ 100000 := fun t ht => ⟨has_iff.2 ht, by have := (hasIx_bd (strsOf l) t).2; omega⟩
  intro z hz
  unfold numIts at hz
  rcases List.mem_cons.1 hz with rfl | hz
  · omega
  · obtain ⟨x, hx, hz⟩ := List.mem_flatMap.1 hz
    have hm : ∀ s ∈ itTs x, s ∈ strsOf l := fun s hs => (mem_strsOf l s).2 (List.mem_flatMap.2 ⟨x, hx, hs⟩)
    have gx := hg x hx
    cases he : x.name.toList.isEmpty
    · rw [numIt_elem he] at hz
      unfold numAts at hz
      unfold itTs at hm
      rw [if_neg (by rw [he]; decide)] at hm
      simp only [List.mem_append, List.mem_cons, List.not_mem_nil, or_false] at hz
      rcases hz with (rfl | (rfl | rfl | rfl)) | (rfl | hz)
      · have := gx.depth; omega
      · omega
      · exact hix _ (hm _ (by simp))
      · exact hix _ (hm _ (by simp))
      · have := gx.few; omega
      · obtain ⟨a, ha, hz⟩ := List.mem_flatMap.1 hz
        have h1 : ∀ s ∈ atTs a, s ∈ strsOf l := fun s hs => hm s (List.mem_cons_of_mem _ (List.mem_cons_of_mem _ (List.mem_flatMap.2 ⟨a, ha, hs⟩)))
        unfold numAt at hz
        simp only [List.mem_cons, List.not_mem_nil, or_false] at hz
        rcases hz with rfl | rfl
        · exact hix _ (h1 _ (by simp [atTs]))
        · exact hix _ (h1 _ (by simp [atTs]))
    · rw [numIt_text he] at hz
      unfold itTs at hm
      rw [if_pos he] at hm
      simp only [List.mem_append, List.mem_cons, List.not_mem_nil, or_false] at hz
      rcases hz with rfl | rfl | rfl
      · have := gx.depth; omega
      · omega
      · exact hix _ (hm _ (by simp))
theorem numIts_len {l : List It} (hl : l.length ≤ 40) (hg : ∀ x ∈ l, GoodIt x) : ∀ F, (numIts F l).length ≤ 801 := by
  intro F
  have key : ∀ l : List It, (∀ x ∈ l, GoodIt x) → (l.flatMap (numIt F)).length ≤ 20 * l.length := by
    intro l
    induction l with
    | nil => intro _; simp
    | cons x l ih =>
      intro hx
      have h1 := ih (fun y hy => hx y (by simp [hy]))
      have h2 : (numIt F x).length ≤ 20 := by
        have hf := (hx x (by simp)).few
        cases he : x.name.toList.isEmpty
        · rw [numIt_elem he]
          unfold numAts
          simp only [List.length_append, List.length_cons, List.length_nil, numAt_len]
          omega
        · rw [numIt_text he]
          simp
      rw [List.flatMap_cons, List.length_append, List.length_cons]
      omega
  have := key l hg
  unfold numIts
  rw [List.length_cons]
  omega
theorem flatV_len (l : List Int) (h : ∀ z ∈ l, 0 ≤ z ∧ z ≤ 100000) : (l.flatMap vI).length ≤ 9 * l.length := by
  induction l with
  | nil => simp
  | cons x l ih =>
    have h1 := ih (fun z hz => h z (by simp [hz]))
    have h2 := vput_len9 x.toNat (by have := h x (by simp); omega)
    rw [List.flatMap_cons, List.length_append, List.length_cons]
    unfold vI at *
    omega
theorem flatS_len (l : List ByteArray) (h : ∀ s ∈ l, s.size ≤ 60) : (l.flatMap strB).length ≤ 69 * l.length := by
  induction l with
  | nil => simp
  | cons x l ih =>
    have h1 := ih (fun z hz => h z (by simp [hz]))
    have h2 := strB_length x (h x (by simp))
    rw [List.flatMap_cons, List.length_append, List.length_cons]
    omega
theorem take_flat {α : Type} (f : α → List Int) (l : List α) (k : Nat) : ((l.take k).flatMap f).length ≤ (l.flatMap f).length := by
  conv => rhs; rw [← List.take_append_drop k l]
  rw [List.flatMap_append, List.length_append]
  omega

/-- the frame is handed back, the book is full -/
def FrameRes (K : Nat → Prop) (w0 w : World) (b m : Nat) (g : Option Nat) (ys : List Int) (e : Ending) (w' : World) : Prop :=
  ∃ a n c, e = .returned (.slice a n c) ∧ w'.ownsRow w.heap.size 5 1 (.slice a n c) n (ys.map (Value.int .u8)) ∧ Only K w0 w' ∧ Only (BookP b m g) w w'

set_option maxRecDepth 100000 in
set_option maxHeartbeats 6400000 in
theorem packed_any (K : Nat → Prop) (w0 : World) (b m : Nat) (g : Option Nat) (a : Option Addr) (n c : Nat) (l : List It) (w : World) (h : BookAt K w0 w b m g []) (hl : ItsAt w0 a n c l) (hfar : FarIts K w0 a n) (h40 : l.length ≤ 40) (hg : ∀ x ∈ l, GoodIt x) :
    Calls Tryz.prog 28 #[.pointer (some ⟨b, 0, none⟩), .slice a n c] w (FrameRes K w0 w b m g (packL l)) := by
  unfold FrameRes
  have KN := Lib.hid (numbersOf_any K w0 b m g a n c l w h hl hfar (by rw [← hl.len]; exact h40) (goodFew hg))
  unfold NumsRes at KN
  have hst := goodStrs hg
  have hcn := goodCount h40 hg
  have hbd := numIts_bd h40 hg
  have hnl := numIts_len h40 hg (strsOf l)
  rw [packL_nums]
  have hw0 := h.on.size
  generalize strsOf l = F at *
  generalize numIts F l = NS at *
  have HST := Lib.hid hst
  have HBD := Lib.hid hbd
  have HFL := Lib.hid (flatS_len F hst)
  have HVL := Lib.hid (flatV_len NS hbd)
  clear h hl hg hst hbd h40 hfar
  go_enter Tryz.func28, Tryz.ntmps28
  go_wp2_with fail
  refine KN.out.mono ?_
  rintro e w1 ⟨a1, n1, c1, g1, rfl, hr1, ha1, hb1, hn1, ho1⟩
  have HR1 := Lib.hid (Row.of_owns hr1)
  have hln1 := owns_length hr1
  obtain ⟨aL, nL, cL, q0, hown, hgl⟩ := hb1.c0
  have HRL := Lib.hid (RowS.of_owns hown)
  have hlnL := ownsS_length hown
  have HB1 := Lib.hid hb1
  have HO1 := Lib.hid ho1
  have hlt1 := hb1.lt
  have HS1 : Hid (Sink (w1.alloc (.cells #[.slice none 0 0] 22)) w1.heap.size w1.heap.size []) := Lib.hid ⟨none, 0, 0, Boxed.new w1 22 (.slice none 0 0), World.ownsRow_nil _ _ _ _⟩
  have KE := Lib.hid (fun (N : Nat) (xs : List Int) (W : World) (h : Sink W w1.heap.size w1.heap.size xs) (hN : N ≤ 9223372036854775807) (hl : xs.length ≤ 90000) => packEach W w1.heap.size w1.heap.size N xs h (Nat.le_refl _) hN hl)
  have KS := Lib.hid (fun (s : ByteArray) (xs : List Int) (W : World) (h : Sink W w1.heap.size w1.heap.size xs) (hs : s.size ≤ 60) (hl : xs.length ≤ 80000) => packStr W w1.heap.size w1.heap.size s xs h (Nat.le_refl _) hs hl)
  unfold PutAll at KE KS
  have HLN1 := Lib.hid hln1
  have HLNL := Lib.hid hlnL
  have hnL : nL ≤ 480 := by omega
  have hn11 : n1 ≤ 801 := by omega
  have K0 := Lib.hid (KE.out nL [] _ HS1.out (by omega) (by simp))
  clear hr1 ha1 hb1 hn1 ho1 hown hgl hln1 hlnL
  go_wp2_with fail
  refine K0.out.mono ?_
  rintro e w2 ⟨rfl, hs2, hb2⟩
  have hlen9 := vput_len9 nL (by omega)
  rw [List.nil_append] at hs2
  have HS2 := Lib.hid hs2
  have HB2 : Hid (Below w1.heap.size w1 w2) := Lib.hid ((below1 w1 _).trans hb2)
  have p0 := (HB2.out.cell (p := ⟨b, 0, none⟩) hlt1).trans q0
  clear hs2 hb2 q0
  go_wp2
  go_loopw [28] (fun i wr => ∃ k : Nat, i = .int .i64 k ∧ k ≤ nL ∧ Sink wr w1.heap.size w1.heap.size (vput nL ++ (F.take k).flatMap strB) ∧ Below w1.heap.size w1 wr) (fun i _ => nL - (intOf i).toNat)
  case atStart => exact ⟨0, rfl, Nat.zero_le _, by simpa using HS2.out, HB2.out⟩
  case round =>
    obtain ⟨k, rfl, hk, hsk, hbk⟩ := hrel
    have HSK := Lib.hid hsk
    have HBK := Lib.hid hbk
    clear hsk hbk
    by_cases hlt : k < nL
    · obtain ⟨bL, oL, capL, hv, h1, h2, h3, h4⟩ := HRL.out.resolve_left (fun e => by
        have e2 := e.1
        simp only [Value.slice.injEq] at e2
        omega)
      simp only [Value.slice.injEq] at hv
      obtain ⟨rfl, hv2, rfl⟩ := hv
      have d1 := (HBK.out.cell (p := ⟨bL, oL + k, none⟩) h3).trans (h4 k (by omega))
      have hmem : F.getD k ByteArray.empty ∈ F := getD_memI (by omega)
      have hsz := HST.out _ hmem
      have hfs := flat_succ strB F ByteArray.empty k (by omega)
      have htl := take_flat strB F k
      generalize F.getD k ByteArray.empty = s at d1 hsz hfs
      have HFS := Lib.hid hfs
      have K1 := Lib.hid (KS.out s _ wr HSK.out hsz (by have := HFL.out; rw [List.length_append]; omega))
      have k7 : (k : Int) < (nL : Int) := by omega
      clear h4 hmem hfs hv2
      go_wp2_with fail
      refine K1.out.mono ?_
      rintro e w3 ⟨rfl, hs3, hb3⟩
      have HS3 := Lib.hid hs3
      have HB3 := Lib.hid (HBK.out.trans hb3)
      clear hs3 hb3
      go_wp2
      go_roundw
      case rel => exact ⟨k + 1, by go_num, by omega, by rw [HFS.out, ← List.append_assoc]; exact HS3.out, HB3.out⟩
      case measure => simp [intOf]; omega
    · obtain rfl : k = nL := by omega
      have hs3 := HSK.out
      rw [show F.take k = F by rw [HLNL.out, List.take_length]] at hs3
      have HS3 := Lib.hid hs3
      clear hs3
      go_wp2
      go_loopw [38] (fun i wz => ∃ j : Nat, i = .int .i64 j ∧ j ≤ n1 ∧ Sink wz w1.heap.size w1.heap.size (vput k ++ F.flatMap strB ++ (NS.take j).flatMap vI) ∧ Below w1.heap.size w1 wz) (fun i _ => n1 - (intOf i).toNat)
      case atStart => exact ⟨0, rfl, Nat.zero_le _, by simpa using HS3.out, HBK.out⟩
      case round =>
        obtain ⟨j, rfl, hj, hsj, hbj⟩ := hrel
        have HSJ := Lib.hid hsj
        have HBJ := Lib.hid hbj
        clear hsj hbj
        by_cases hlj : j < n1
        · obtain ⟨b4, o4, cap4, hv, h1, h2, h3, h4⟩ := HR1.out.resolve_left (fun e => by
            have e2 := e.1
            simp only [Value.slice.injEq] at e2
            omega)
          simp only [Value.slice.injEq] at hv
          obtain ⟨rfl, hv2, rfl⟩ := hv
          have d1 := (HBJ.out.cell (p := ⟨b4, o4 + j, none⟩) h3).trans (h4 j (by omega))
          have hmem : NS.getD j 0 ∈ NS := getD_memI (by omega)
          have hz := HBD.out _ hmem
          have hfs := flat_succ vI NS 0 j (by omega)
          have htl := take_flat vI NS j
          generalize NS.getD j 0 = z at d1 hz hfs
          obtain ⟨Z, rfl⟩ : ∃ Z : Nat, z = Z := ⟨z.toNat, by omega⟩
          have hfs2 : (NS.take (j + 1)).flatMap vI = (NS.take j).flatMap vI ++ vput Z := by rw [hfs]; unfold vI; rw [Int.toNat_natCast]
          have HFS := Lib.hid hfs2
          have K1 := Lib.hid (KE.out Z _ _ HSJ.out (by omega) (by have h1 := HFL.out; have h2 := HVL.out; rw [List.length_append, List.length_append]; omega))
          have k7 : (j : Int) < (n1 : Int) := by omega
          clear h4 hmem hfs hv2 hfs2
          go_wp2_with fail
          refine K1.out.mono ?_
          rintro e w3 ⟨rfl, hs3, hb3⟩
          have HS3 := Lib.hid hs3
          have HB3 := Lib.hid (HBJ.out.trans hb3)
          clear hs3 hb3
          go_wp2
          go_roundw
          case rel => exact ⟨j + 1, by go_num, by omega, by rw [HFS.out, ← List.append_assoc]; exact HS3.out, HB3.out⟩
          case measure => simp [intOf]; omega
        · obtain rfl : j = n1 := by omega
          have hs4 := HSJ.out
          rw [show NS.take j = NS by rw [HLN1.out, List.take_length]] at hs4
          obtain ⟨af, nf, cf, hv, ho⟩ := hs4
          have hcf := hv.cell
          have HO := Lib.hid ho
          clear hv ho
          go_wp2
          go_ret
          exact ⟨af, nf, cf, rfl, owns_mono (by rw [← HLNL.out]; exact HO.out) HO1.out.size, HB1.out.on.trans (Only.below HBJ.out), HO1.out.trans (Only.below HBJ.out)⟩
end Go.Proofs.YtbfjhjkllaceaaaGreatDoor

/- impl.isTree, impl.TreeFault. -/
namespace Go.Proofs.YtbfjhjkllaceaaaGreatDoor
open Go.ChangeShapes Go.WideShapes Go.ChangeAt Go.RowKit
set_option linter.unusedVariables false

set_option maxRecDepth 100000 in
set_option maxHeartbeats 6400000 in
theorem implIsTree_any (a : Option Addr) (n c : Nat) (l : List It) (w : World) (h1 : 1 ≤ n) (h40 : n ≤ 40) (hd : ∀ i, i < n → 0 ≤ (l.getD i dIt).depth ∧ (l.getD i dIt).depth ≤ 6) (h : ItsAt w a n c l) :
    Calls Tryz.prog 49 #[.slice a n c] w fun e w' => e = .returned (.bool (stands l)) ∧ ∃ n, w' = w.drewN n := by
  have HL := Lib.hid h.len
  have HD := Lib.hid hd
  obtain ⟨b, o, rfl, h4⟩ : ∃ b o, a = some ⟨b, o, none⟩ ∧ ∀ i, i < n → ItAt w b (o + i * 5) (l.getD i dIt) := by
    rcases h.row with e | h
    · omega
    · exact h
  have H4 := Lib.hid h4
  have HNO : Hid (¬ ((l.getD 0 dIt).depth = 0 ∧ (l.getD 0 dIt).name.toList.isEmpty = false) → stands l = false) := Lib.hid stands_first
  have HNO2 : Hid (∀ i, 1 ≤ i → i < n → mayStand (l.getD (i - 1) dIt) (l.getD i dIt) = false → stands l = false) := Lib.hid fun i h1 h2 h3 => stands_no h1 (by have := h.len; omega) h3
  have HYES : Hid ((l.getD 0 dIt).depth = 0 → (l.getD 0 dIt).name.toList.isEmpty = false → (∀ i, 1 ≤ i → i < n → mayStand (l.getD (i - 1) dIt) (l.getD i dIt) = true) → stands l = true) := Lib.hid fun g0 g1 g2 => stands_yes g0 g1 fun i h1 h2 => g2 i h1 (by have := h.len; omega)
  clear h h4 hd
  generalize stands l = st at HNO HNO2 HYES
  have hi := H4.out 0 (by omega)
  have d0 : w.cell? ⟨b, o, none⟩ = some (.int .i64 (l.getD 0 dIt).depth) := by have := hi.c0; simpa using this
  have d3 : w.cell? ⟨b, o + 3, none⟩ = some (.string (l.getD 0 dIt).name) := by have := hi.c3; simpa using this
  clear hi
  have k0 : (0 : Int) < (n : Int) := by omega
  generalize l.getD 0 dIt = x at d0 d3 HNO HYES
  obtain ⟨xd, xt, xs, xn, xa⟩ := x
  dsimp only at d0 d3 HNO HYES
  by_cases hx0 : xd = 0
  · subst hx0
    cases hx3 : xn.toList.isEmpty
    · have HY2 := Lib.hid (HYES.out rfl hx3)
      clear HNO HYES
      go_enter Tryz.func49, Tryz.ntmps49
      go_wp2
      clear d0 d3 hx3
      go_loopw [3] (fun i wr => ∃ k : Nat, 1 ≤ k ∧ k ≤ n ∧ i = .int .i64 k ∧ (∀ j, 1 ≤ j → j < k → mayStand (l.getD (j - 1) dIt) (l.getD j dIt) = true) ∧ ∃ nd, wr = w.drewN nd) (fun i _ => n - (intOf i).toNat)
      case atStart => exact ⟨1, Nat.le_refl _, by omega, rfl, fun j h1 h2 => by omega, 0, rfl⟩
      case round =>
        obtain ⟨k, hk1, hk, rfl, hz, hw⟩ := hrel
        have HW := Lib.hid hw
        have HZ := Lib.hid hz
        clear hz hw
        by_cases hlt : k < n
        · have hbw : Below w.heap.size w wr := by obtain ⟨nd, rfl⟩ := HW.out; exact below_drewN (Below.refl _ _) nd
          have hi := (H4.out k hlt).below hbw
          have hj := (H4.out (k - 1) (by omega)).below hbw
          have d0 := hi.c0
          have d3 := hi.c3
          have e0 := hj.c0
          have e3 := hj.c3
          have hdx := HD.out k hlt
          have hdp := HD.out (k - 1) (by omega)
          have KF := Lib.hid (fun (m : Nat) => mayFollow_any b (o + (k - 1) * 5) b (o + k * 5) (l.getD (k - 1) dIt) (l.getD k dIt) (wr.drewN m) (hj.below (below_drewN (Below.refl _ _) m)) (hi.below (below_drewN (Below.refl _ _) m)) hdp)
          clear hi hj hbw
          have HN2 : Hid (mayStand (l.getD (k - 1) dIt) (l.getD k dIt) = false → st = false) := Lib.hid (HNO2.out k hk1 hlt)
          have HY3 : Hid (mayStand (l.getD (k - 1) dIt) (l.getD k dIt) = true → ∀ j, 1 ≤ j → j < k + 1 → mayStand (l.getD (j - 1) dIt) (l.getD j dIt) = true) := Lib.hid fun e j h1 h2 => by
            rcases Nat.lt_or_ge j k with h | h
            · exact HZ.out j h1 h
            · obtain rfl : j = k := by omega
              exact e
          have q5 : (0 : Int) ≤ (k : Int) - 1 := by omega
          have q6 : (1 : Int) ≤ (k : Int) := by omega
          have q7 : (k : Int) - 1 < (n : Int) := by omega
          have q8 : (k : Int) < (n : Int) := by omega
          generalize l.getD k dIt = x at d0 d3 hdx HN2 HY3 KF
          generalize l.getD (k - 1) dIt = p at e0 e3 hdp HN2 HY3 KF
          obtain ⟨xd, xt, xs, xn, xa⟩ := x
          obtain ⟨pd, pt, ps, pn, pa⟩ := p
          unfold mayStand at HN2 HY3
          dsimp only at d0 d3 e0 e3 hdx hdp HN2 HY3 KF
          obtain ⟨xe, hxe⟩ : ∃ xe, xn.toList.isEmpty = xe := ⟨_, rfl⟩
          obtain ⟨pe, hpe⟩ : ∃ pe, pn.toList.isEmpty = pe := ⟨_, rfl⟩
          rw [hxe, hpe] at HN2 HY3
          cases g0 : xd == 0
          · have K := Lib.hid (fun m => KF.out m)
            rw [hxe, hpe] at K
            rw [stand_follow g0] at HN2 HY3
            clear KF
            generalize followB xd pd xe pe = fb at K HN2 HY3
            cases fb
            · have HF := Lib.hid (HN2.out rfl)
              clear HN2 HY3
              go_wp2_with fail
              go_quiet ((go_at_call 79; exact Calls.quiet_of (K.out _)))
              go_wp2
              go_ret
              exact ⟨ret_bool HF.out.symm, drew_more HW.out _⟩
            · have HF := Lib.hid (HY3.out rfl)
              clear HN2 HY3
              go_wp2_with fail
              go_quiet ((go_at_call 79; exact Calls.quiet_of (K.out _)))
              go_wp2
              go_roundw
              case rel => exact ⟨k + 1, by omega, by omega, by go_num, HF.out, drew_more HW.out _⟩
              case measure => simp [intOf]; omega
          · have HF := Lib.hid (HN2.out (stand_zero g0))
            clear HN2 HY3 KF
            go_wp2_with fail
            go_quiet (fail)
            go_wp2
            go_ret
            exact ⟨ret_bool HF.out.symm, drew_more HW.out _⟩
        · have HF : st = true := HY2.out fun i h1 h2 => HZ.out i h1 (by omega)
          go_wp2
          go_ret
          exact ⟨ret_bool HF.symm, HW.out⟩
    · have HF := Lib.hid (HNO.out (fun e => by have := e.2; rw [hx3] at this; cases this))
      go_enter Tryz.func49, Tryz.ntmps49
      go_wp2
      go_ret
      exact ⟨ret_bool HF.out.symm, 0, rfl⟩
  · have HF := Lib.hid (HNO.out (fun e => hx0 e.1))
    have q1 : (xd != 0) = true := by simpa using hx0
    have q2 : (xd == 0) = false := by simpa using hx0
    clear hx0
    go_enter Tryz.func49, Tryz.ntmps49
    go_wp2
    go_ret
    exact ⟨ret_bool HF.out.symm, 0, rfl⟩

set_option maxRecDepth 100000 in
set_option maxHeartbeats 3200000 in
theorem implTreeFault_any (a : Option Addr) (n c : Nat) (l : List It) (w : World) (hT : Tabs w) (h : ItsAt w a n c l) :
    Calls Tryz.prog 26 #[.slice a n c] w fun e w' => e = .returned (.int .i64 (treeCode l)) ∧ Below w.heap.size w w' := by
  have hm := h.max
  have HL := Lib.hid h.len
  have H := Lib.hid h
  have HT := Lib.hid hT
  clear hT
  by_cases hn : n < 1 ∨ 40 < n
  · have HC := Lib.hid (treeCode_many (l := l) (by have := h.len; omega))
    clear h
    generalize treeCode l = cd at HC
    rcases hn with hn | hn
    · obtain rfl : n = 0 := by omega
      go_enter Tryz.func26, Tryz.ntmps26
      go_wp2
      go_ret
      exact ⟨ret_i HC.out.symm, Below.refl _ _⟩
    · go_enter Tryz.func26, Tryz.ntmps26
      go_wp2
      go_ret
      exact ⟨ret_i HC.out.symm, Below.refl _ _⟩
  · have h1 : 1 ≤ n := by omega
    have h40 : n ≤ 40 := by omega
    have HC1 : Hid (∀ k, k < n → (∀ j, j < k → itemCode (l.getD j dIt) = 0) → itemCode (l.getD k dIt) ≠ 0 → treeCode l = itemCode (l.getD k dIt)) := Lib.hid fun k hk h0 h1 => treeCode_at (by have := h.len; omega) (by have := h.len; omega) h0 h1
    have HC2 : Hid ((∀ j, j < n → itemCode (l.getD j dIt) = 0) → treeCode l = if stands l = true then 0 else 1) := Lib.hid fun h0 => treeCode_end (by have := h.len; omega) (fun j hj => h0 j (by have := h.len; omega))
    obtain ⟨b, o, rfl, h4⟩ : ∃ b o, a = some ⟨b, o, none⟩ ∧ ∀ i, i < n → ItAt w b (o + i * 5) (l.getD i dIt) := by
      rcases h.row with e | h
      · omega
      · exact h
    have H4 := Lib.hid h4
    clear h hn h4
    generalize treeCode l = cd at HC1 HC2
    go_enter Tryz.func26, Tryz.ntmps26
    go_wp2
    go_loopw [16] (fun i wr => ∃ k : Nat, k ≤ n ∧ i = .int .i64 k ∧ (∀ j, j < k → itemCode (l.getD j dIt) = 0) ∧ Below w.heap.size w wr) (fun i _ => n - (intOf i).toNat)
    case atStart => exact ⟨0, Nat.zero_le _, rfl, fun j hj => by omega, Below.refl _ _⟩
    case round =>
      obtain ⟨k, hk, rfl, hz, hb⟩ := hrel
      have HK := Lib.hid hz
      clear hz
      by_cases hlt : k < n
      · have hi := (H4.out k hlt).below hb
        have d0 := hi.c0
        have d1 := hi.c1
        have d2 := hi.c2
        have d3 := hi.c3
        obtain ⟨a4, n4, c4, d4, hat⟩ := hi.c4
        have k1 : (k : Int) < (n : Int) := by omega
        have K := Lib.hid (fun W (hb' : Below wr.heap.size wr W) => implItemFault_any (l.getD k dIt) a4 n4 c4 W (tabs_kept HT.out (below_then hb hb')) hi.wf hi.size (hat.below hb'))
        have HY : Hid (itemCode (l.getD k dIt) ≠ 0 → cd = itemCode (l.getD k dIt)) := Lib.hid (HC1.out k hlt HK.out)
        have HK2 : Hid (itemCode (l.getD k dIt) = 0 → ∀ j, j < k + 1 → itemCode (l.getD j dIt) = 0) := Lib.hid fun hx j hj => by
          rcases Nat.lt_or_ge j k with h | h
          · exact HK.out j h
          · obtain rfl : j = k := by omega
            exact hx
        have HB := Lib.hid hb
        have hltb := hi.lt
        clear hi hat hb
        generalize itemCode (l.getD k dIt) = ic at K HY HK2
        generalize l.getD k dIt = x at d0 d1 d2 d3 K
        obtain ⟨xd, xt, xs, xn, xa⟩ := x
        dsimp only at d0 d1 d2 d3 K
        by_cases h0 : ic = 0
        · subst h0
          have HK3 := Lib.hid (HK2.out rfl)
          clear HK2 HY
          go_wp2_with fail
          refine (K.out _ (below1 _ _)).mono ?_
          rintro e w2 ⟨rfl, hb2⟩
          go_wp2
          go_roundw
          case rel => exact ⟨k + 1, by omega, by go_num, HK3.out, below_then HB.out (below_then (below1 _ _) hb2)⟩
          case measure => simp [intOf]; omega
        · have HY2 := Lib.hid (HY.out h0)
          have q1 : (ic != 0) = true := by simpa using h0
          have q2 : (ic == 0) = false := by simpa using h0
          clear HK2 HY h0
          go_wp2_with fail
          refine (K.out _ (below1 _ _)).mono ?_
          rintro e w2 ⟨rfl, hb2⟩
          go_wp2
          go_ret
          exact ⟨ret_i HY2.out.symm, below_then HB.out (below_then (below1 _ _) hb2)⟩
      · obtain rfl : k = n := by omega
        have K := Lib.hid (implIsTree_any (some ⟨b, o, none⟩) k c l wr h1 h40 (fun i hi => item_depth (HK.out i hi)) (H.out.below hb))
        have HC3 := Lib.hid (HC2.out HK.out)
        generalize stands l = st at K HC3
        clear HC1 HC2
        cases st
        all_goals
          go_wp2_with fail
          refine K.out.mono ?_
          rintro e w2 ⟨rfl, nd, rfl⟩
          go_wp2
          go_ret
          exact ⟨ret_i HC3.out.symm, below_drewN hb nd⟩
end Go.Proofs.YtbfjhjkllaceaaaGreatDoor

/- The program's UnpackTree. -/
namespace Go.Proofs.YtbfjhjkllaceaaaGreatDoor
open Go.ChangeShapes Go.WideShapes Go.ChangeAt Go.RowKit
set_option linter.unusedVariables false

/-- the book is empty again -/
def Forgot (K : Nat → Prop) (w0 w : World) (b m : Nat) (g : Option Nat) (e : Ending) (w' : World) : Prop :=
  e = .returned (.tuple #[]) ∧ BookAt K w0 w' b m none [] ∧ Only (BookP b m g) w w'
set_option maxHeartbeats 1600000 in
theorem forget_any (K : Nat → Prop) (w0 : World) (b m : Nat) (g : Option Nat) (ts : List ByteArray) (w : World) (h : BookAt K w0 w b m g ts) :
    Calls Tryz.prog 35 #[.pointer (some ⟨b, 0, none⟩)] w (Forgot K w0 w b m g) := by
  unfold Forgot
  obtain ⟨a, n, c, q0, hown, hgl⟩ := h.c0
  obtain ⟨D, hmap, hp⟩ := h.map
  have q1 := h.c1
  have f0 := h.f0
  have HB := Lib.hid h
  have HMAP := Lib.hid hmap
  have hlt := h.lt
  clear h hown hgl hmap hp
  go_enter Tryz.func35, Tryz.ntmps35
  go_wp2_with (with_reducible refine wpList_clear_own _ rfl _ 46 rfl 9 2 Tryz.underlying46 (plainElem (H := Unit) Tryz.prog 2) m ts.length D rfl HMAP.out ?_)
  intro w1 hown1 hturn1
  have hg1 := hturn1.grown
  have hap := HB.out.apart
  have hbm : some b ≠ some m := fun e => hap.2.2 (Option.some.inj e).symm
  have k0 := same_grown hg1 hlt hbm 0
  have k1 := same_grown hg1 hlt hbm 1
  have p0 := k0.1.trans q0
  have p1 := k1.1.trans q1
  have pf0 := k0.2.trans f0
  have pf1 := k1.2.trans HB.out.f1
  have hlt1 : b < w1.heap.size := Nat.lt_of_lt_of_le hlt hg1.size
  have HM1 := Lib.hid hown1
  have HO1 : Hid (Only (BookP b m g) w w1) := Lib.hid (Only.grownP hg1 (fun k hk => by cases hk; exact .inr (.inl rfl)))
  have HK1 := Lib.hid (HB.out.on.grownK hg1 (fun k hk => by cases hk; exact .inl HB.out.mge))
  have HPF1 := Lib.hid pf1
  clear hown1 hturn1 hg1 k0 k1 q0 q1 f0 pf1
  go_wp2
  go_end0
  exact ⟨rfl, ⟨by simpa using hlt1, HB.out.ge, HB.out.mge, HK1.out.trans (Only.set w1 _ _ HB.out.ge), ⟨none, 0, 0, set_at p0, World.ownsRow_nil _ _ _ _, rfl⟩, set_oth (by decide) p1, ⟨_, HM1.out.setCell hap.2.2 _, Places.empty⟩, ⟨by simp, by simp, hap.2.2⟩, by rw [World.frozen?_setCell]; exact pf0, by rw [World.frozen?_setCell]; exact HPF1.out⟩, HO1.out.trans (Only.set w1 _ _ (.inl rfl))⟩

set_option maxHeartbeats 800000 in
theorem bytesEqual_any (v1 v2 : Value) (xs ys : List Int) (w : World) (h1 : Row w .u8 v1 xs) (h2 : Row w .u8 v2 ys) (hx : ∀ x ∈ xs, 0 ≤ x ∧ x < 256) (hy : ∀ x ∈ ys, 0 ≤ x ∧ x < 256) :
    Calls Tryz.prog 36 #[v1, v2] w fun e w' => e = .returned (.bool (decide (xs = ys))) ∧ w' = w := by
  obtain ⟨a1, n1, c1, rfl⟩ : ∃ a n c, v1 = .slice a n c := by
    rcases h1 with ⟨rfl, _⟩ | ⟨b, o, c, rfl, _⟩
    · exact ⟨_, _, _, rfl⟩
    · exact ⟨_, _, _, rfl⟩
  obtain ⟨a2, n2, c2, rfl⟩ : ∃ a n c, v2 = .slice a n c := by
    rcases h2 with ⟨rfl, _⟩ | ⟨b, o, c, rfl, _⟩
    · exact ⟨_, _, _, rfl⟩
    · exact ⟨_, _, _, rfl⟩
  have e1 := conv_row (P := Tryz.prog) w Tryz.underlying22 Tryz.underlying5 Tryz.underlying9 h1
  have e2 := conv_row (P := Tryz.prog) w Tryz.underlying22 Tryz.underlying5 Tryz.underlying9 h2
  have ht := nums_test xs ys hx hy
  generalize decide (xs = ys) = bb at ht ⊢
  clear h1 h2 hx hy
  go_enter Tryz.func36, Tryz.ntmps36
  go_wp2
  go_ret
  exact ⟨ret_bool (by first | rfl | exact ht | simpa using ht), rfl⟩

theorem BookAt.renew {K : Nat → Prop} {w0 w : World} {b m : Nat} {ts : List ByteArray} (h : BookAt K w0 w b m none ts) : BookAt (fun i => i = b ∨ i = m) w w b m none ts := by
  obtain ⟨a, n, c, h1, h2, h3⟩ := h.c0
  rcases h2.2 with ⟨hv, h0⟩ | ⟨g, cap, cur, hv, _⟩
  · have hl := ownsS_length h2
    have ht : ts = [] := List.length_eq_zero_iff.1 (by omega)
    subst ht
    exact ⟨h.lt, .inl rfl, .inr rfl, Only.refl _, ⟨none, 0, 0, by rw [h1, hv], World.ownsRow_nil _ _ _ _, rfl⟩, h.c1, h.map, h.apart, h.f0, h.f1⟩
  · rw [hv] at h3
    cases h3
theorem BookAt.fresh {w w1 : World} {m : Nat} {T : TypeId} {v : Value} (hW : Below w.heap.size w w1) (hm : w.heap.size ≤ m) (hm2 : m < w1.heap.size) (hmap : w1.ownsMap Tryz.prog 9 (plainElem (H := Unit) Tryz.prog 2) m 0 (.map [])) :
    BookAt (fun i => w.heap.size ≤ i) w (w1.alloc (.cells #[.slice none 0 0, .map (some m), v] T)) w1.heap.size m none [] :=
  ⟨by simp, hW.size, hm, Only.below (hW.alloc hW.size _), ⟨none, 0, 0, by simp, World.ownsRow_nil _ _ _ _, rfl⟩, by simp, ⟨_, hmap.alloc _, Places.empty⟩, ⟨by simp, by simp, by omega⟩, by simp, by simp⟩
theorem R2.only {P : Nat → Prop} {w w' : World} {b : Nat} {v0 v1 : Value} (h : R2 w b v0 v1) (ho : Only P w w') (hn : ¬ P b) : R2 w' b v0 v1 :=
  ⟨Nat.lt_of_lt_of_le h.lt ho.size, (ho.cell (p := ⟨b, 0, none⟩) h.lt hn).trans h.c0, (ho.cell (p := ⟨b, 1, none⟩) h.lt hn).trans h.c1, (ho.frozen (p := ⟨b, 0, none⟩) h.lt hn).trans h.f0, (ho.frozen (p := ⟨b, 1, none⟩) h.lt hn).trans h.f1⟩
theorem OwnIts.far {w : World} {lo hi : Nat} {a : Option Addr} {n c : Nat} {l : List It} {K : Nat → Prop} (h : OwnIts w lo hi a n c l) (hK : ∀ i, lo ≤ i → ¬ K i) : FarIts K w a n := by
  rintro b o rfl i hi
  rcases h.row with e | ⟨b', A, N, C, ha, h1, h2, hr, hc, hab, haa⟩
  · omega
  · simp only [Option.some.injEq, Addr.mk.injEq] at ha
    obtain ⟨rfl, rfl, _⟩ := ha
    refine ⟨hK _ h1, fun a4 n4 c4 h4 x hx hn => ?_⟩
    have h5 := (hc i hi).1.c4
    rw [Nat.zero_add] at h4
    rw [h5] at h4
    simp only [Option.some.injEq, Value.slice.injEq] at h4
    obtain ⟨e1, e2, e3⟩ := h4
    obtain ⟨b5, e5, q1, q2, _⟩ := (hc i hi).2.own.resolve_left (by omega)
    rw [e1, hx] at e5
    cases e5
    exact hK _ q1

/-- the code and the items of the program's UnpackTree -/
def puCode (xs : List Int) : Int := if 3000 < xs.length then 2 else if treeCode (pI xs) = 0 ∧ packL (pI xs) = xs then 0 else 5
def puIts (xs : List Int) : List It := if 3000 < xs.length then [] else if treeCode (pI xs) = 0 ∧ packL (pI xs) = xs then pI xs else []
theorem pu_code (xs : List Int) : puCode xs = unCodeT xs := by
  unfold puCode unCodeT
  by_cases h3 : 3000 < xs.length
  · rw [if_pos h3, if_pos h3]
  · rw [if_neg h3, if_neg h3]
    by_cases h : unOk xs
    · rw [if_pos h, if_pos (p_ok.1 h)]
    · rw [if_neg h, if_neg (fun hh => h (p_ok.2 hh))]
theorem pu_its (xs : List Int) : puIts xs = unIts xs := by
  unfold puIts unIts
  by_cases h3 : 3000 < xs.length
  · rw [if_pos h3, if_pos h3]
  · rw [if_neg h3, if_neg h3]
    by_cases h : unOk xs
    · rw [if_pos h, if_pos (p_ok.1 h), p_un h]
    · rw [if_neg h, if_neg (fun hh => h (p_ok.2 hh))]

set_option maxRecDepth 100000 in
set_option maxHeartbeats 6400000 in
theorem implUnpackTree_any (a : Option Addr) (n c : Nat) (xs : List Int) (w : World) (sa : Addr) (hs : Sent w sa) (hT : Tabs w) (hn : n = xs.length) (hm : n ≤ 1048576) (h : Row w .u8 (.slice a n c) xs) (hby : ∀ i, 0 ≤ xs.getD i 0 ∧ xs.getD i 0 ≤ 255) :
    Calls Tryz.prog 9 #[.slice a n c] w (UnRes w (puCode xs) (puIts xs)) := by
  unfold UnRes
  by_cases h3 : 3000 < n
  · have e1 : puCode xs = 2 := by unfold puCode; rw [if_pos (by omega)]
    have e2 : puIts xs = [] := by unfold puIts; rw [if_pos (by omega)]
    rw [e1, e2]
    clear h hby hn e1 e2
    go_enter Tryz.func9, Tryz.ntmps9
    go_wp2
    exact bodyPost_ret (v := .agg #[.int .i64 2, .slice none 0 0]) (by simp [results, Tryz.results9, go_sem]) rfl
      ⟨none, 0, 0, rfl, no_items _ _ _, below1 w _⟩
  · have h3' : (n : Int) ≤ 3000 := by omega
    have hxl : ¬ 3000 < xs.length := by omega
    have e1 : puCode xs = if treeCode (pI xs) = 0 ∧ packL (pI xs) = xs then 0 else 5 := by unfold puCode; rw [if_neg hxl]
    have e2 : puIts xs = if treeCode (pI xs) = 0 ∧ packL (pI xs) = xs then pI xs else [] := by unfold puIts; rw [if_neg hxl]
    have KI := Lib.hid (fun (b m : Nat) (W : World) (hh : RpAt w W b m none xs []) => pitems_any w sa hs hT b m none xs W hh (by omega))
    unfold ItsP at KI
    have KE := Lib.hid emptyBook_any
    unfold EmptyRes at KE
    have HR := Lib.hid h
    have HBY := Lib.hid hby
    have HN := Lib.hid hn
    have HTB := Lib.hid hT
    generalize puCode xs = cd at e1 ⊢
    generalize puIts xs = its at e2 ⊢
    generalize pI xs = L at *
    have HC0 : Hid (treeCode L = 0 → packL L = xs → cd = 0 ∧ its = L) := Lib.hid (fun g1 g2 => by rw [e1, e2, if_pos ⟨g1, g2⟩, if_pos ⟨g1, g2⟩]; exact ⟨rfl, rfl⟩)
    have HC5 : Hid (¬ (treeCode L = 0 ∧ packL L = xs) → cd = 5 ∧ its = []) := Lib.hid (fun g => by rw [e1, e2, if_neg g, if_neg g]; exact ⟨rfl, rfl⟩)
    clear h hby hn h3 e1 e2 hs hT hxl
    go_enter Tryz.func9, Tryz.ntmps9
    go_wp2_with fail
    refine (KE.out _).mono ?_
    rintro e w1 ⟨m, rfl, hm1, hm2, hmap, hb1⟩
    have hm1' : w.heap.size + 1 ≤ m := by simpa using hm1
    have hW1 : Below w.heap.size w w1 := (below1 w _).trans (hb1.mono (by simp))
    have hz1 : w.heap.size + 1 ≤ w1.heap.size := by have := hb1.size; simpa using this
    have V1 := Lib.hid (((R2.new w 31 (.int .i64 0) (.slice none 0 0)).below hb1).below (below1 w1 (.cells #[.slice none 0 0, .map (some m), .slice a n c] 56)))
    have hbk := BookAt.fresh (T := 56) (v := .slice a n c) hW1 (by omega) hm2 hmap
    have R1 : Hid (RpAt w (w1.alloc (.cells #[.slice none 0 0, .map (some m), .slice a n c] 56)) w1.heap.size m none xs []) := Lib.hid ⟨hbk, HBY.out, ⟨a, n, c, by simp, HN.out, HR.out⟩, by simp⟩
    have K1 := Lib.hid (KI.out w1.heap.size m _ R1.out)
    clear hm1 hmap hb1 hbk
    go_wp2_with fail
    refine K1.out.mono ?_
    rintro e w3 ⟨a3, n3, c3, g3, xs3, ts3, lo, rfl, hits, hlo, hblo, hrp, hng, hon⟩
    have hB3 : Below w.heap.size w w3 := hrp.book.bel
    have hng3 : ∀ i, BookP w1.heap.size m g3 i → w.heap.size + 1 ≤ i := by
      rintro i (rfl | rfl | e)
      · omega
      · omega
      · rcases hng with rfl | ⟨k, rfl, hk⟩
        · cases e
        · simp only [Option.some.injEq] at e
          simp at hk
          omega
    have HNG := Lib.hid hng3
    have V3 := Lib.hid (V1.out.only hon (fun hp => by rcases hp with e | e | e; omega; omega; cases e))
    have HITS := Lib.hid hits
    have HB3 := Lib.hid hB3
    have HRP := Lib.hid hrp
    have HBL := Lib.hid hblo
    have KTF := Lib.hid (implTreeFault_any a3 n3 c3 L w3 (tabs_kept HTB.out hB3) hits.its)
    have hlo1 : w.heap.size + 1 ≤ lo := by simp at hlo; omega
    clear hits hlo hblo hrp hng hng3 hon hB3
    by_cases htc : treeCode L = 0
    · rw [htc] at KTF
      obtain ⟨h40, hgood⟩ := goodTree htc
      have HGD := Lib.hid hgood
      clear hgood
      go_wp2_with fail
      refine KTF.out.mono ?_
      rintro e w4 ⟨rfl, hb4⟩
      have HB4 := Lib.hid (HB3.out.trans (hb4.mono HB3.out.size))
      have V4 := Lib.hid (V3.out.below hb4)
      have OI4 := Lib.hid (own_belowI HITS.out hb4)
      have KF := Lib.hid (forget_any (fun i => w.heap.size ≤ i) w w1.heap.size m g3 ts3 w4 (HRP.out.book.keep hb4))
      unfold Forgot at KF
      clear hb4
      go_wp2_with fail
      refine KF.out.mono ?_
      rintro e w5 ⟨rfl, hbk5, ho5⟩
      have OI5 := Lib.hid (own_onlyI OI4.out ho5 (fun i hi hp => by have := HBL.out i hp; omega) (Nat.le_refl _) ho5.size)
      have HB5 := Lib.hid (Only.under HB4.out (Nat.le_refl _) ho5 (fun i hp => by have := HNG.out i hp; omega))
      have V5 := Lib.hid (V4.out.only ho5 (fun hp => by have := HNG.out _ hp; omega))
      have KP := Lib.hid (packed_any (fun i => i = w1.heap.size ∨ i = m) w5 w1.heap.size m none a3 n3 c3 L w5 hbk5.renew OI5.out.its (OI5.out.far (fun i hi hk => by rcases hk with e | e; have := HBL.out i (.inl e); omega; have := HBL.out i (.inr (.inl e)); omega)) h40 HGD.out)
      unfold FrameRes at KP
      clear hbk5 ho5
      go_wp2_with fail
      refine KP.out.mono ?_
      rintro e w6 ⟨a6, n6, c6, rfl, hr6, hk6, ho6⟩
      have OI6 := Lib.hid (own_onlyI OI5.out ho6 (fun i hi hp => by rcases hp with e | e | e; have := HBL.out i (.inl e); omega; have := HBL.out i (.inr (.inl e)); omega; cases e) (Nat.le_refl _) ho6.size)
      have HB6 := Lib.hid (Only.under HB5.out (Nat.le_refl _) ho6 (fun i hp => by rcases hp with e | e | e; omega; omega; cases e))
      have V6 := Lib.hid (V5.out.only ho6 (fun hp => by rcases hp with e | e | e; omega; omega; cases e))
      have KQ := Lib.hid (bytesEqual_any (.slice a6 n6 c6) (.slice a n c) (packL L) xs w6 (Row.of_owns hr6) (HR.out.below HB6.out) (packL_bytes L) (getD_bytes HBY.out))
      clear hr6 hk6 ho6
      by_cases hpk : packL L = xs
      · rw [decide_eq_true hpk] at KQ
        obtain ⟨rfl, rfl⟩ := HC0.out htc hpk
        clear hpk htc
        go_wp2_with fail
        refine KQ.out.mono ?_
        rintro e w7 ⟨rfl, rfl⟩
        have y0 := V6.out.c0
        have y1 := V6.out.c1
        have yf0 := V6.out.f0
        have yf1 := V6.out.f1
        have ylt := V6.out.lt
        have z0 : ((w7.setCell ⟨w.heap.size, 0, none⟩ (.int .i64 0)).setCell ⟨w.heap.size, 1, none⟩ (.slice a3 n3 c3)).cell? ⟨w.heap.size, 0, none⟩ = some (.int .i64 0) := set_oth (by decide) (set_at y0)
        have z1 : ((w7.setCell ⟨w.heap.size, 0, none⟩ (.int .i64 0)).setCell ⟨w.heap.size, 1, none⟩ (.slice a3 n3 c3)).cell? ⟨w.heap.size, 1, none⟩ = some (.slice a3 n3 c3) := set_at (set_oth (by decide) y1)
        go_wp2
        exact bodyPost_ret (v := .agg #[.int .i64 0, .slice a3 n3 c3]) (by simp [results, Tryz.results9, go_sem, z0, z1]) rfl ⟨a3, n3, c3, rfl, own_onlyI (P := fun _ => False) (own_setI (own_setI OI6.out ⟨w.heap.size, 0, none⟩ _ (by simp; omega)) ⟨w.heap.size, 1, none⟩ _ (by simp; omega)) (Only.refl _) (fun _ _ h => h) (by omega) (by simp), (HB6.out.setCell (Nat.le_refl _) _).setCell (Nat.le_refl _) _⟩
      · rw [decide_eq_false hpk] at KQ
        obtain ⟨rfl, rfl⟩ := HC5.out (fun h => hpk h.2)
        clear hpk htc
        go_wp2_with fail
        refine KQ.out.mono ?_
        rintro e w7 ⟨rfl, rfl⟩
        have y0 := V6.out.c0
        have y1 := V6.out.c1
        have yf0 := V6.out.f0
        have yf1 := V6.out.f1
        have ylt := V6.out.lt
        have z0 : ((w7.setCell ⟨w.heap.size, 0, none⟩ (.int .i64 5)).setCell ⟨w.heap.size, 1, none⟩ (.slice none 0 0)).cell? ⟨w.heap.size, 0, none⟩ = some (.int .i64 5) := set_oth (by decide) (set_at y0)
        have z1 : ((w7.setCell ⟨w.heap.size, 0, none⟩ (.int .i64 5)).setCell ⟨w.heap.size, 1, none⟩ (.slice none 0 0)).cell? ⟨w.heap.size, 1, none⟩ = some (.slice none 0 0) := set_at (set_oth (by decide) y1)
        go_wp2
        exact bodyPost_ret (v := .agg #[.int .i64 5, .slice none 0 0]) (by simp [results, Tryz.results9, go_sem, z0, z1]) rfl ⟨none, 0, 0, rfl, no_items _ _ _, (HB6.out.setCell (Nat.le_refl _) _).setCell (Nat.le_refl _) _⟩
    · obtain ⟨rfl, rfl⟩ := HC5.out (fun h => htc h.1)
      generalize treeCode L = tc at *
      have ht0 : (tc == 0) = false := by simpa using htc
      have ht1 : (tc != 0) = true := by simpa using htc
      clear htc
      go_wp2_with fail
      refine KTF.out.mono ?_
      rintro e w4 ⟨rfl, hb4⟩
      have HB4 := Lib.hid (HB3.out.trans (hb4.mono HB3.out.size))
      have V4 := Lib.hid (V3.out.below hb4)
      clear hb4
      have y0 := V4.out.c0
      have y1 := V4.out.c1
      have yf0 := V4.out.f0
      have yf1 := V4.out.f1
      have ylt := V4.out.lt
      have z0 : ((w4.setCell ⟨w.heap.size, 0, none⟩ (.int .i64 5)).setCell ⟨w.heap.size, 1, none⟩ (.slice none 0 0)).cell? ⟨w.heap.size, 0, none⟩ = some (.int .i64 5) := set_oth (by decide) (set_at y0)
      have z1 : ((w4.setCell ⟨w.heap.size, 0, none⟩ (.int .i64 5)).setCell ⟨w.heap.size, 1, none⟩ (.slice none 0 0)).cell? ⟨w.heap.size, 1, none⟩ = some (.slice none 0 0) := set_at (set_oth (by decide) y1)
      go_wp2
      exact bodyPost_ret (v := .agg #[.int .i64 5, .slice none 0 0]) (by simp [results, Tryz.results9, go_sem, z0, z1]) rfl ⟨none, 0, 0, rfl, no_items _ _ _, (HB4.out.setCell (Nat.le_refl _) _).setCell (Nat.le_refl _) _⟩
end Go.Proofs.YtbfjhjkllaceaaaGreatDoor

/- heldAttrS, heldItemS. -/
namespace Go.Proofs.YtbfjhjkllaceaaaGreatDoor
open Go.ChangeShapes Go.WideShapes Go.ChangeAt Go.RowKit
set_option linter.unusedVariables false

theorem held1 {w0 W W' : World} {p1 : Addr} {v1 : Value} (hb : Below W.heap.size W W') (h : Below w0.heap.size w0 W ∧ W.cell? p1 = some v1) : Below w0.heap.size w0 W' ∧ W'.cell? p1 = some v1 :=
  ⟨below_then h.1 hb, (hb.cell (World.block_lt_of_cell? W _ h.2)).trans h.2⟩
theorem same_no (s : ByteArray) : (s.toList == s.toList) = true := by simp

set_option maxRecDepth 100000 in
set_option maxHeartbeats 3200000 in
theorem heldAttrS_any (a : Option Addr) (n c k : Nat) (w : World) (h0 : 0 < k) (h1 : k ≤ 100000000000000000) (hn : n ≤ 1048576) (h : AtsAt w a n c (markAts k n)) :
    Calls Tryz.prog 78 #[.slice a n c, .int .i64 k] w fun e w' => e = .returned (.int .i64 ((k + 2 * n : Nat) : Int)) ∧ Below w.heap.size w w' := by
  have HR := Lib.hid h.row
  clear h
  go_enter Tryz.func78, Tryz.ntmps78
  go_wp2
  go_loopw [1, 5] (fun v i wr => ∃ j : Nat, j ≤ n ∧ i = .int .i64 j ∧ v = .int .i64 ((k + 2 * j : Nat) : Int) ∧ Below w.heap.size w wr) (fun _ i _ => n - (intOf i).toNat)
  case atStart => exact ⟨0, Nat.zero_le _, rfl, rfl, Below.refl _ _⟩
  case round =>
    obtain ⟨j, hj, rfl, rfl, hb⟩ := hrel
    by_cases hlt : j < n
    · obtain ⟨b, o, rfl, h3, h4⟩ := HR.out.resolve_left (by omega)
      have d0 := (hb.cell (p := ⟨b, o + j * 2, none⟩) h3).trans (h4 j hlt).1
      have d1 := (hb.cell (p := ⟨b, o + j * 2 + 1, none⟩) h3).trans (h4 j hlt).2
      rw [markAts_get k n j hlt] at d0 d1
      dsimp only at d0 d1
      have HB := Lib.hid hb
      have q0 : (j : Int) < (n : Int) := by omega
      clear h4 hb
      obtain ⟨kk, hkk⟩ : ∃ kk, k + 2 * j = kk := ⟨_, rfl⟩
      have K1 := Lib.hid (markText_any kk (by omega) (by omega))
      have K2 := Lib.hid (markText_succ kk (by omega))
      have q1 : kk ≤ 1000000000000000000 := by omega
      rw [hkk] at d0 d1 ⊢
      have HKK := Lib.hid hkk
      have e1 := same_no (markT kk)
      have e2 := same_no (markT (kk + 1))
      have hbl : b < wr.heap.size := World.block_lt_of_cell? wr _ d0
      clear hkk
      go_wp2_with fail
      have hS0 : Below wr.heap.size wr wr.drew ∧ wr.drew.cell? ⟨b, o + j * 2, none⟩ = some (.string (markT kk)) := ⟨(Below.refl _ _).drew, d0⟩
      go_region_held3 (fun W => Below wr.heap.size wr W ∧ W.cell? ⟨b, o + j * 2, none⟩ = some (.string (markT kk))) (first | assumption | exact held1 hbr (by assumption))
        (first | (go_at_call 76; refine (K1.out _).mono ?_; rintro e w' ⟨rfl, hbr⟩))
      have HB1 := Lib.hid (below_of_drew hbr)
      have d2 := ((below_of_drew hbr).cell (p := ⟨b, o + j * 2 + 1, none⟩) hbl).trans d1
      have hbl2 : b < w'.heap.size := World.block_lt_of_cell? w' _ d2
      clear d0 d1 hS0 hbr
      rename_i hheld
      clear hheld
      go_wp2_with fail
      have hS1 : Below w'.heap.size w' w'.drew ∧ w'.drew.cell? ⟨b, o + j * 2 + 1, none⟩ = some (.string (markT (kk + 1))) := ⟨(Below.refl _ _).drew, d2⟩
      go_region_held3 (fun W => Below w'.heap.size w' W ∧ W.cell? ⟨b, o + j * 2 + 1, none⟩ = some (.string (markT (kk + 1)))) (first | assumption | exact held1 hbr (by assumption))
        (first | (go_at_call 76; refine (K2.out _).mono ?_; rintro e w' ⟨rfl, hbr⟩))
      go_wp2
      go_roundw
      case rel => exact ⟨j + 1, by omega, by go_num, by rw [← HKK.out]; first | rfl | (congr 1; omega), below_then HB.out (below_then HB1.out (below_of_drew hbr))⟩
      case measure => simp [intOf]; omega
    · obtain rfl : j = n := by omega
      go_wp2
      go_ret
      exact ⟨rfl, hb⟩

set_option maxRecDepth 100000 in
set_option maxHeartbeats 6400000 in
theorem heldItemS_any (a : Option Addr) (n c k : Nat) (l : List It) (w : World) (h0 : 0 < k) (hK : kAt k l n ≤ 10000000000000000) (hA : ∀ i, i < n → (l.getD i dIt).attrs.length ≤ 1048576) (hlen : l.length = n) (h : ItsAt w a n c (markIts k l)) :
    Calls Tryz.prog 47 #[.slice a n c, .int .i64 k] w fun e w' => e = .returned (.int .i64 ((kAt k l n : Nat) : Int)) ∧ Below w.heap.size w w' := by
  have hm := h.max
  have HR := Lib.hid h.row
  have HL := Lib.hid hlen
  have HK := Lib.hid hK
  have HA := Lib.hid hA
  clear h hlen hK hA
  go_enter Tryz.func47, Tryz.ntmps47
  go_wp2
  go_loopw [1, 5] (fun v i wr => ∃ j : Nat, j ≤ n ∧ i = .int .i64 j ∧ v = .int .i64 ((kAt k l j : Nat) : Int) ∧ Below w.heap.size w wr) (fun _ i _ => n - (intOf i).toNat)
  case atStart => exact ⟨0, Nat.zero_le _, rfl, rfl, Below.refl _ _⟩
  case round =>
    obtain ⟨j, hj, rfl, rfl, hb⟩ := hrel
    by_cases hlt : j < n
    · obtain ⟨b, o, rfl, h4⟩ := HR.out.resolve_left (by omega)
      have hi := (h4 j hlt).below hb
      rw [markIts_get k l j (by have := HL.out; omega)] at hi
      have hle1 := kAt_le k l (i := 0) (j := j) (by omega)
      have hle2 := kAt_le k l (i := j) (j := n) (by omega)
      have hkk0 : 0 < kAt k l j := by show 0 < _; have : kAt k l 0 = k := rfl; omega
      have hkk1 : kAt k l j ≤ 10000000000000000 := by have := HK.out; omega
      have HKJ : Hid (kAt k l (j + 1) = kAt k l j + 4 + 2 * (l.getD j dIt).attrs.length) := Lib.hid rfl
      have hNA : (l.getD j dIt).attrs.length ≤ 1048576 := HA.out j hlt
      clear hle1 hle2 h4
      obtain ⟨kk, hkk⟩ : ∃ kk, kAt k l j = kk := ⟨_, rfl⟩
      rw [hkk] at hi hkk0 hkk1 HKJ ⊢
      obtain ⟨na, hna⟩ : ∃ na, (l.getD j dIt).attrs.length = na := ⟨_, rfl⟩
      unfold markIt at hi
      rw [hna] at hi HKJ hNA
      clear hkk hna
      have d0 := hi.c0
      have d1 := hi.c1
      have d2 := hi.c2
      have d3 := hi.c3
      obtain ⟨a4, n4, c4, d4, hat⟩ := hi.c4
      dsimp only at d0 d1 d2 d3 hat
      obtain rfl : n4 = na := by rw [← hat.len, markAts_length]
      have HB := Lib.hid hb
      have q0 : (j : Int) < (n : Int) := by omega
      have K1 := Lib.hid (markText_at kk 1 (by omega) (by omega))
      have K2 := Lib.hid (markText_at kk 2 (by omega) (by omega))
      have K3 := Lib.hid (markText_at kk 3 (by omega) (by omega))
      have K4 := Lib.hid (fun W (hb' : Below wr.heap.size wr W) => heldAttrS_any a4 n4 c4 (kk + 4) W (by omega) (by omega) hNA (hat.below hb'))
      have e0 : ((kk : Int) != (kk : Int)) = false := by simp
      have e1 := same_no (markT (kk + 1))
      have e2 := same_no (markT (kk + 2))
      have e3 := same_no (markT (kk + 3))
      have hbl := hi.lt
      clear hi hat hb
      have HBW0 := Lib.hid (Below.refl wr.heap.size wr)
      go_wp2_with fail
      have hS1 : Below wr.heap.size wr wr.drew ∧ wr.drew.cell? ⟨b, o + j * 5 + 1, none⟩ = some (.string (markT (kk + 1))) := ⟨(Below.refl _ _).drew, d1⟩
      go_region_held3 (fun W => Below wr.heap.size wr W ∧ W.cell? ⟨b, o + j * 5 + 1, none⟩ = some (.string (markT (kk + 1)))) (first | assumption | exact held1 hbr (by assumption))
        (first | (go_at_call 76; refine (K1.out _).mono ?_; rintro e w1 ⟨rfl, hbr⟩))
      have HBW1 := Lib.hid (below_then HBW0.out (below_of_drew hbr))
      have d2 := ((below_of_drew hbr).cell (p := ⟨b, o + j * 5 + 2, none⟩) hbl).trans d2
      have d3 := ((below_of_drew hbr).cell (p := ⟨b, o + j * 5 + 3, none⟩) hbl).trans d3
      have d4 := ((below_of_drew hbr).cell (p := ⟨b, o + j * 5 + 4, none⟩) hbl).trans d4
      have hbl := Nat.lt_of_lt_of_le hbl (below_of_drew hbr).size
      rename_i hheld
      clear hheld hbr hS1
      go_wp2_with fail
      have hS2 : Below w1.heap.size w1 w1.drew ∧ w1.drew.cell? ⟨b, o + j * 5 + 2, none⟩ = some (.string (markT (kk + 2))) := ⟨(Below.refl _ _).drew, d2⟩
      go_region_held3 (fun W => Below w1.heap.size w1 W ∧ W.cell? ⟨b, o + j * 5 + 2, none⟩ = some (.string (markT (kk + 2)))) (first | assumption | exact held1 hbr (by assumption))
        (first | (go_at_call 76; refine (K2.out _).mono ?_; rintro e w2 ⟨rfl, hbr⟩))
      have HBW2 := Lib.hid (below_then HBW1.out (below_of_drew hbr))
      have d3 := ((below_of_drew hbr).cell (p := ⟨b, o + j * 5 + 3, none⟩) hbl).trans d3
      have d4 := ((below_of_drew hbr).cell (p := ⟨b, o + j * 5 + 4, none⟩) hbl).trans d4
      have hbl := Nat.lt_of_lt_of_le hbl (below_of_drew hbr).size
      rename_i hheld
      clear hheld hbr hS2
      go_wp2_with fail
      have hS3 : Below w2.heap.size w2 w2.drew ∧ w2.drew.cell? ⟨b, o + j * 5 + 3, none⟩ = some (.string (markT (kk + 3))) := ⟨(Below.refl _ _).drew, d3⟩
      go_region_held3 (fun W => Below w2.heap.size w2 W ∧ W.cell? ⟨b, o + j * 5 + 3, none⟩ = some (.string (markT (kk + 3)))) (first | assumption | exact held1 hbr (by assumption))
        (first | (go_at_call 76; refine (K3.out _).mono ?_; rintro e w3 ⟨rfl, hbr⟩))
      have HBW3 := Lib.hid (below_then HBW2.out (below_of_drew hbr))
      have d4 := ((below_of_drew hbr).cell (p := ⟨b, o + j * 5 + 4, none⟩) hbl).trans d4
      have hbl := Nat.lt_of_lt_of_le hbl (below_of_drew hbr).size
      rename_i hheld
      clear hheld hbr hS3
      go_wp2_with fail
      refine (K4.out _ HBW3.out).mono ?_
      rintro e w4 ⟨rfl, hb4⟩
      go_wp2
      go_roundw
      case rel => exact ⟨j + 1, by omega, by go_num, by rw [HKJ.out]; congr 1, below_then HB.out (below_then HBW3.out hb4)⟩
      case measure => simp [intOf]; omega
    · obtain rfl : j = n := by omega
      go_wp2
      go_ret
      exact ⟨rfl, hb⟩
end Go.Proofs.YtbfjhjkllaceaaaGreatDoor

/- eqAttr, eqAttrS, eqItem, eqItemS at two readings of one list. -/
namespace Go.Proofs.YtbfjhjkllaceaaaGreatDoor
open Go.ChangeShapes Go.WideShapes Go.ChangeAt Go.RowKit
set_option linter.unusedVariables false

set_option maxHeartbeats 400000 in
theorem eqAttr_true (s t : ByteArray) (w : World) :
    Calls Tryz.prog 105 #[.agg #[.string s, .string t], .agg #[.string s, .string t]] w fun e w' => e = .returned (.bool true) ∧ Below w.heap.size w w' := by
  go_enter Tryz.func105, Tryz.ntmps105
  go_wp2
  go_ret
  exact ⟨rfl, below2 _ _ _⟩

theorem held4 {w0 W W' : World} {p1 p2 p3 p4 : Addr} {v1 v2 v3 v4 : Value} (hb : Below W.heap.size W W')
    (h : Below w0.heap.size w0 W ∧ W.cell? p1 = some v1 ∧ W.cell? p2 = some v2 ∧ W.cell? p3 = some v3 ∧ W.cell? p4 = some v4) :
    Below w0.heap.size w0 W' ∧ W'.cell? p1 = some v1 ∧ W'.cell? p2 = some v2 ∧ W'.cell? p3 = some v3 ∧ W'.cell? p4 = some v4 :=
  ⟨below_then h.1 hb, (hb.cell (World.block_lt_of_cell? W _ h.2.1)).trans h.2.1, (hb.cell (World.block_lt_of_cell? W _ h.2.2.1)).trans h.2.2.1, (hb.cell (World.block_lt_of_cell? W _ h.2.2.2.1)).trans h.2.2.2.1, (hb.cell (World.block_lt_of_cell? W _ h.2.2.2.2)).trans h.2.2.2.2⟩

set_option maxHeartbeats 1600000 in
theorem eqAttrS_true (a a' : Option Addr) (n n' c c' : Nat) (l : List At) (w : World) (h : AtsAt w a n c l) (h' : AtsAt w a' n' c' l) :
    Calls Tryz.prog 96 #[.slice a n c, .slice a' n' c'] w fun e w' => e = .returned (.bool true) ∧ Below w.heap.size w w' := by
  obtain rfl : n = n' := h.len.symm.trans h'.len
  have hm := h.max
  have HR := Lib.hid h.row
  have HR' := Lib.hid h'.row
  clear h h'
  go_enter Tryz.func96, Tryz.ntmps96
  go_wp2
  go_loopw [5] (fun i wr => ∃ k : Nat, k ≤ n ∧ i = .int .i64 k ∧ Below w.heap.size w wr) (fun i _ => n - (intOf i).toNat)
  case atStart => exact ⟨0, Nat.zero_le _, rfl, Below.refl _ _⟩
  case round =>
    obtain ⟨k, hk, rfl, hb⟩ := hrel
    by_cases hlt : k < n
    · rcases HR.out with e0 | ⟨b, o, rfl, h3, h4⟩
      · omega
      rcases HR'.out with e0 | ⟨b', o', rfl, h3', h4'⟩
      · omega
      have d0 := (hb.cell (p := ⟨b, o + k * 2, none⟩) h3).trans (h4 k hlt).1
      have d1 := (hb.cell (p := ⟨b, o + k * 2 + 1, none⟩) h3).trans (h4 k hlt).2
      have e0 := (hb.cell (p := ⟨b', o' + k * 2, none⟩) h3').trans (h4' k hlt).1
      have e1 := (hb.cell (p := ⟨b', o' + k * 2 + 1, none⟩) h3').trans (h4' k hlt).2
      have k1 : (k : Int) < (n : Int) := by omega
      generalize l.getD k dAt = x at d0 d1 e0 e1
      obtain ⟨s, t⟩ := x
      dsimp only at d0 d1 e0 e1
      have HB := Lib.hid hb
      clear h4 h4' hb
      go_wp2_with fail
      have hS0 : Below wr.heap.size wr wr.drew ∧ wr.drew.cell? ⟨b, o + k * 2, none⟩ = some (.string s) ∧ wr.drew.cell? ⟨b, o + k * 2 + 1, none⟩ = some (.string t) ∧ wr.drew.cell? ⟨b', o' + k * 2, none⟩ = some (.string s) ∧ wr.drew.cell? ⟨b', o' + k * 2 + 1, none⟩ = some (.string t) := ⟨(Below.refl _ _).drew, d0, d1, e0, e1⟩
      go_region_held3 (fun W => Below wr.heap.size wr W ∧ W.cell? ⟨b, o + k * 2, none⟩ = some (.string s) ∧ W.cell? ⟨b, o + k * 2 + 1, none⟩ = some (.string t) ∧ W.cell? ⟨b', o' + k * 2, none⟩ = some (.string s) ∧ W.cell? ⟨b', o' + k * 2 + 1, none⟩ = some (.string t)) (first | assumption | exact held4 hbr (by assumption))
        (first | (go_at_call 105; refine (eqAttr_true s t _).mono ?_; rintro e w' ⟨rfl, hbr⟩))
      go_wp2
      go_roundw
      case rel => exact ⟨k + 1, by omega, by go_num, below_then HB.out (below_of_drew hbr)⟩
      case measure => simp [intOf]; omega
    · go_wp2
      go_ret
      exact ⟨rfl, hb⟩

set_option maxHeartbeats 800000 in
theorem eqItem_true (x : It) (a a' : Option Addr) (n n' c c' : Nat) (w : World) (h : AtsAt w a n c x.attrs) (h' : AtsAt w a' n' c' x.attrs) :
    Calls Tryz.prog 75 #[.agg #[.int .i64 x.depth, .string x.text, .string x.space, .string x.name, .slice a n c], .agg #[.int .i64 x.depth, .string x.text, .string x.space, .string x.name, .slice a' n' c']] w fun e w' => e = .returned (.bool true) ∧ Below w.heap.size w w' := by
  obtain ⟨d, s, t, u, l⟩ := x
  dsimp only at h h' ⊢
  have K := Lib.hid (fun W (hb : Below w.heap.size w W) => eqAttrS_true a a' n n' c c' l W (h.below hb) (h'.below hb))
  clear h h'
  go_enter Tryz.func75, Tryz.ntmps75
  go_wp2_with fail
  refine (K.out _ (below2 _ _ _)).mono ?_
  rintro e w1 ⟨rfl, hb⟩
  go_wp2
  go_ret
  exact ⟨rfl, below_then (below2 _ _ _) hb⟩

theorem held10 {w0 W W' : World} {p0 p1 p2 p3 p4 p5 p6 p7 p8 p9 : Addr} {v0 v1 v2 v3 v4 v5 v6 v7 v8 v9 : Value} (hb : Below W.heap.size W W')
    (h : Below w0.heap.size w0 W ∧ W.cell? p0 = some v0 ∧ W.cell? p1 = some v1 ∧ W.cell? p2 = some v2 ∧ W.cell? p3 = some v3 ∧ W.cell? p4 = some v4 ∧ W.cell? p5 = some v5 ∧ W.cell? p6 = some v6 ∧ W.cell? p7 = some v7 ∧ W.cell? p8 = some v8 ∧ W.cell? p9 = some v9) :
    Below w0.heap.size w0 W' ∧ W'.cell? p0 = some v0 ∧ W'.cell? p1 = some v1 ∧ W'.cell? p2 = some v2 ∧ W'.cell? p3 = some v3 ∧ W'.cell? p4 = some v4 ∧ W'.cell? p5 = some v5 ∧ W'.cell? p6 = some v6 ∧ W'.cell? p7 = some v7 ∧ W'.cell? p8 = some v8 ∧ W'.cell? p9 = some v9 :=
  ⟨below_then h.1 hb, (hb.cell (World.block_lt_of_cell? W _ h.2.1)).trans h.2.1, (hb.cell (World.block_lt_of_cell? W _ h.2.2.1)).trans h.2.2.1, (hb.cell (World.block_lt_of_cell? W _ h.2.2.2.1)).trans h.2.2.2.1, (hb.cell (World.block_lt_of_cell? W _ h.2.2.2.2.1)).trans h.2.2.2.2.1, (hb.cell (World.block_lt_of_cell? W _ h.2.2.2.2.2.1)).trans h.2.2.2.2.2.1, (hb.cell (World.block_lt_of_cell? W _ h.2.2.2.2.2.2.1)).trans h.2.2.2.2.2.2.1, (hb.cell (World.block_lt_of_cell? W _ h.2.2.2.2.2.2.2.1)).trans h.2.2.2.2.2.2.2.1, (hb.cell (World.block_lt_of_cell? W _ h.2.2.2.2.2.2.2.2.1)).trans h.2.2.2.2.2.2.2.2.1, (hb.cell (World.block_lt_of_cell? W _ h.2.2.2.2.2.2.2.2.2.1)).trans h.2.2.2.2.2.2.2.2.2.1, (hb.cell (World.block_lt_of_cell? W _ h.2.2.2.2.2.2.2.2.2.2)).trans h.2.2.2.2.2.2.2.2.2.2⟩

set_option maxRecDepth 100000 in
set_option maxHeartbeats 3200000 in
theorem eqItemS_true (a a' : Option Addr) (n n' c c' : Nat) (l : List It) (w : World) (h : ItsAt w a n c l) (h' : ItsAt w a' n' c' l) :
    Calls Tryz.prog 45 #[.slice a n c, .slice a' n' c'] w fun e w' => e = .returned (.bool true) ∧ Below w.heap.size w w' := by
  obtain rfl : n = n' := h.len.symm.trans h'.len
  have hm := h.max
  have HR := Lib.hid h.row
  have HR' := Lib.hid h'.row
  clear h h'
  go_enter Tryz.func45, Tryz.ntmps45
  go_wp2
  go_loopw [5] (fun i wr => ∃ k : Nat, k ≤ n ∧ i = .int .i64 k ∧ Below w.heap.size w wr) (fun i _ => n - (intOf i).toNat)
  case atStart => exact ⟨0, Nat.zero_le _, rfl, Below.refl _ _⟩
  case round =>
    obtain ⟨k, hk, rfl, hb⟩ := hrel
    by_cases hlt : k < n
    · rcases HR.out with e0 | ⟨b, o, rfl, h4⟩
      · omega
      rcases HR'.out with e0 | ⟨b', o', rfl, h4'⟩
      · omega
      have hi := (h4 k hlt).below hb
      have hi' := (h4' k hlt).below hb
      have d0 := hi.c0
      have d1 := hi.c1
      have d2 := hi.c2
      have d3 := hi.c3
      obtain ⟨a4, n4, c4, d4, hat⟩ := hi.c4
      have e0 := hi'.c0
      have e1 := hi'.c1
      have e2 := hi'.c2
      have e3 := hi'.c3
      obtain ⟨a5, n5, c5, e4, hat'⟩ := hi'.c4
      have K := Lib.hid (fun W (hb' : Below wr.heap.size wr W) => eqItem_true (l.getD k dIt) a4 a5 n4 n5 c4 c5 W (hat.below hb') (hat'.below hb'))
      have k1 : (k : Int) < (n : Int) := by omega
      clear hi hi' hat hat' h4 h4'
      generalize l.getD k dIt = x at d0 d1 d2 d3 e0 e1 e2 e3 K
      obtain ⟨xd, xt, xs, xn, xa⟩ := x
      dsimp only at d0 d1 d2 d3 e0 e1 e2 e3 K
      have HB := Lib.hid hb
      clear hb
      go_wp2_with fail
      have hS0 : Below wr.heap.size wr wr.drew ∧ wr.drew.cell? ⟨b, o + k * 5, none⟩ = some (.int .i64 xd) ∧ wr.drew.cell? ⟨b, o + k * 5 + 1, none⟩ = some (.string xt) ∧ wr.drew.cell? ⟨b, o + k * 5 + 2, none⟩ = some (.string xs) ∧ wr.drew.cell? ⟨b, o + k * 5 + 3, none⟩ = some (.string xn) ∧ wr.drew.cell? ⟨b, o + k * 5 + 4, none⟩ = some (.slice a4 n4 c4) ∧ wr.drew.cell? ⟨b', o' + k * 5, none⟩ = some (.int .i64 xd) ∧ wr.drew.cell? ⟨b', o' + k * 5 + 1, none⟩ = some (.string xt) ∧ wr.drew.cell? ⟨b', o' + k * 5 + 2, none⟩ = some (.string xs) ∧ wr.drew.cell? ⟨b', o' + k * 5 + 3, none⟩ = some (.string xn) ∧ wr.drew.cell? ⟨b', o' + k * 5 + 4, none⟩ = some (.slice a5 n5 c5) := ⟨(Below.refl _ _).drew, d0, d1, d2, d3, d4, e0, e1, e2, e3, e4⟩
      go_region_held3 (fun W => Below wr.heap.size wr W ∧ W.cell? ⟨b, o + k * 5, none⟩ = some (.int .i64 xd) ∧ W.cell? ⟨b, o + k * 5 + 1, none⟩ = some (.string xt) ∧ W.cell? ⟨b, o + k * 5 + 2, none⟩ = some (.string xs) ∧ W.cell? ⟨b, o + k * 5 + 3, none⟩ = some (.string xn) ∧ W.cell? ⟨b, o + k * 5 + 4, none⟩ = some (.slice a4 n4 c4) ∧ W.cell? ⟨b', o' + k * 5, none⟩ = some (.int .i64 xd) ∧ W.cell? ⟨b', o' + k * 5 + 1, none⟩ = some (.string xt) ∧ W.cell? ⟨b', o' + k * 5 + 2, none⟩ = some (.string xs) ∧ W.cell? ⟨b', o' + k * 5 + 3, none⟩ = some (.string xn) ∧ W.cell? ⟨b', o' + k * 5 + 4, none⟩ = some (.slice a5 n5 c5)) (first | assumption | exact held10 hbr (by assumption))
        (first | (go_at_call 75; refine (K.out _ ?_).mono ?_; exact (And.left (by assumption)); rintro e w' ⟨rfl, hbr⟩))
      go_wp2
      go_roundw
      case rel => exact ⟨k + 1, by omega, by go_num, below_then HB.out (below_of_drew hbr)⟩
      case measure => simp [intOf]; omega
    · go_wp2
      go_ret
      exact ⟨rfl, hb⟩
end Go.Proofs.YtbfjhjkllaceaaaGreatDoor
