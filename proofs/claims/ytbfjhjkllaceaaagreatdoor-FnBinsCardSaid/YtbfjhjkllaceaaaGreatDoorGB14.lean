/- Texts laid together, part 14. -/
import Derived.Test.YtbfjhjkllaceaaaGreatDoorGB13

/- The program's frame of a tree. -/
namespace Go.Proofs.YtbfjhjkllaceaaaGreatDoor
open Go.ChangeShapes Go.WideShapes Go.ChangeAt Go.RowKit
set_option linter.unusedVariables false

/-- a number of a list, in bytes -/
def vI (x : Int) : List Int := vput x.toNat
theorem vI_atts (F : List ByteArray) (l : List At) : (l.flatMap (numAt F)).flatMap vI = l.flatMap (attB F) := by
  induction l with
  | nil => rfl
  | cons a l ih =>
    rw [List.flatMap_cons, List.flatMap_append, ih, List.flatMap_cons]
    simp [numAt, vI, attB, refB]
theorem vI_it (F : List ByteArray) (x : It) : (numIt F x).flatMap vI = itB F x := by
  cases he : x.name.toList.isEmpty
  · rw [numIt_elem he, itB_elem he]
    unfold numAts
    simp only [List.flatMap_append, List.flatMap_cons, List.flatMap_nil, List.append_nil, vI_atts]
    unfold vI refB
    rw [show vput (1 : Int).toNat = [1] by rw [vput_small (by decide)]; rfl, Int.toNat_natCast]
    simp
  · rw [numIt_text he, itB_text he]
    simp only [List.flatMap_append, List.flatMap_cons, List.flatMap_nil, List.append_nil]
    unfold vI refB
    rw [show vput (0 : Int).toNat = [0] by rw [vput_small (by decide)]; rfl]
    simp
theorem vI_its (F : List ByteArray) (l : List It) : (numIts F l).flatMap vI = vput l.length ++ l.flatMap (itB F) := by
  have h : ∀ l : List It, (l.flatMap (numIt F)).flatMap vI = l.flatMap (itB F) := by
    intro l
    induction l with
    | nil => rfl
    | cons x l ih => rw [List.flatMap_cons, List.flatMap_append, ih, vI_it, List.flatMap_cons]
  unfold numIts
  rw [List.flatMap_cons, h]
  unfold vI
  rw [Int.toNat_natCast]
theorem packL_nums (l : List It) : packL l = vput (strsOf l).length ++ (strsOf l).flatMap strB ++ (numIts (strsOf l) l).flatMap vI := by
  rw [vI_its]
  unfold packL
  simp
/-- no number is below 0, or too large -/
theorem numIts_bd {l : List It} (hl : l.length ≤ 40) (hg : ∀ x ∈ l, GoodIt x) : ∀ z ∈ numIts (strsOf l) l, 0 ≤ z ∧ z ≤ 100000 := by
  have hc := goodCount hl hg
  have hix : ∀ t, t ∈ strsOf l → 0 ≤ hasIx (strsOf l) t ∧ hasIx (strsOf l) t ≤ 100000 := fun t ht => ⟨has_iff.2 ht, by have := (hasIx_bd (strsOf l) t).2; omega⟩
  intro z hz
  unfold numIts at hz
  rcases List.mem_cons.1 hz with rfl | hz
  · omega
  · obtain ⟨x, hx, hz⟩ := List.mem_flatMap.1 hz
    have hm : ∀ s ∈ itTs x, s ∈ strsOf l := fun s hs => (mem_strsOf l s).2 (List.mem_flatMap.2 ⟨x, hx, hs⟩)
    have gx := hg x hx
    cases he : x.name.toList.isEmpty
    · rw [numIt_elem he] at hz
      unfold numAts at hz
      unfold itTs at hm
      rw [if_neg (by rw [he]; decide)] at hm
      simp only [List.mem_append, List.mem_cons, List.not_mem_nil, or_false] at hz
      rcases hz with (rfl | (rfl | rfl | rfl)) | (rfl | hz)
      · have := gx.depth; omega
      · omega
      · exact hix _ (hm _ (by simp))
      · exact hix _ (hm _ (by simp))
      · have := gx.few; omega
      · obtain ⟨a, ha, hz⟩ := List.mem_flatMap.1 hz
        have h1 : ∀ s ∈ atTs a, s ∈ strsOf l := fun s hs => hm s (List.mem_cons_of_mem _ (List.mem_cons_of_mem _ (List.mem_flatMap.2 ⟨a, ha, hs⟩)))
        unfold numAt at hz
        simp only [List.mem_cons, List.not_mem_nil, or_false] at hz
        rcases hz with rfl | rfl
        · exact hix _ (h1 _ (by simp [atTs]))
        · exact hix _ (h1 _ (by simp [atTs]))
    · rw [numIt_text he] at hz
      unfold itTs at hm
      rw [if_pos he] at hm
      simp only [List.mem_append, List.mem_cons, List.not_mem_nil, or_false] at hz
      rcases hz with rfl | rfl | rfl
      · have := gx.depth; omega
      · omega
      · exact hix _ (hm _ (by simp))
theorem numIts_len {l : List It} (hl : l.length ≤ 40) (hg : ∀ x ∈ l, GoodIt x) : ∀ F, (numIts F l).length ≤ 801 := by
  intro F
  have key : ∀ l : List It, (∀ x ∈ l, GoodIt x) → (l.flatMap (numIt F)).length ≤ 20 * l.length := by
    intro l
    induction l with
    | nil => intro _; simp
    | cons x l ih =>
      intro hx
      have h1 := ih (fun y hy => hx y (by simp [hy]))
      have h2 : (numIt F x).length ≤ 20 := by
        have hf := (hx x (by simp)).few
        cases he : x.name.toList.isEmpty
        · rw [numIt_elem he]
          unfold numAts
          simp only [List.length_append, List.length_cons, List.length_nil, numAt_len]
          omega
        · rw [numIt_text he]
          simp
      rw [List.flatMap_cons, List.length_append, List.length_cons]
      omega
  have := key l hg
  unfold numIts
  rw [List.length_cons]
  omega
theorem flatV_len (l : List Int) (h : ∀ z ∈ l, 0 ≤ z ∧ z ≤ 100000) : (l.flatMap vI).length ≤ 9 * l.length := by
  induction l with
  | nil => simp
  | cons x l ih =>
    have h1 := ih (fun z hz => h z (by simp [hz]))
    have h2 := vput_len9 x.toNat (by have := h x (by simp); omega)
    rw [List.flatMap_cons, List.length_append, List.length_cons]
    unfold vI at *
    omega
theorem flatS_len (l : List ByteArray) (h : ∀ s ∈ l, s.size ≤ 60) : (l.flatMap strB).length ≤ 69 * l.length := by
  induction l with
  | nil => simp
  | cons x l ih =>
    have h1 := ih (fun z hz => h z (by simp [hz]))
    have h2 := strB_length x (h x (by simp))
    rw [List.flatMap_cons, List.length_append, List.length_cons]
    omega
theorem take_flat {α : Type} (f : α → List Int) (l : List α) (k : Nat) : ((l.take k).flatMap f).length ≤ (l.flatMap f).length := by
  conv => rhs; rw [← List.take_append_drop k l]
  rw [List.flatMap_append, List.length_append]
  omega

/-- the frame is handed back, the book is full -/
def FrameRes (K : Nat → Prop) (w0 w : World) (b m : Nat) (g : Option Nat) (ys : List Int) (e : Ending) (w' : World) : Prop :=
  ∃ a n c, e = .returned (.slice a n c) ∧ w'.ownsRow w.heap.size 5 1 (.slice a n c) n (ys.map (Value.int .u8)) ∧ Only K w0 w' ∧ Only (BookP b m g) w w'

set_option maxRecDepth 100000 in
set_option maxHeartbeats 6400000 in
theorem packed_any (K : Nat → Prop) (w0 : World) (b m : Nat) (g : Option Nat) (a : Option Addr) (n c : Nat) (l : List It) (w : World) (h : BookAt K w0 w b m g []) (hl : ItsAt w0 a n c l) (hfar : FarIts K w0 a n) (h40 : l.length ≤ 40) (hg : ∀ x ∈ l, GoodIt x) :
    Calls Tryz.prog 28 #[.pointer (some ⟨b, 0, none⟩), .slice a n c] w (FrameRes K w0 w b m g (packL l)) := by
  unfold FrameRes
  have KN := Lib.hid (numbersOf_any K w0 b m g a n c l w h hl hfar (by rw [← hl.len]; exact h40) (goodFew hg))
  unfold NumsRes at KN
  have hst := goodStrs hg
  have hcn := goodCount h40 hg
  have hbd := numIts_bd h40 hg
  have hnl := numIts_len h40 hg (strsOf l)
  rw [packL_nums]
  have hw0 := h.on.size
  generalize strsOf l = F at *
  generalize numIts F l = NS at *
  have HST := Lib.hid hst
  have HBD := Lib.hid hbd
  have HFL := Lib.hid (flatS_len F hst)
  have HVL := Lib.hid (flatV_len NS hbd)
  clear h hl hg hst hbd h40 hfar
  go_enter Tryz.func28, Tryz.ntmps28
  go_wp2_with fail
  refine KN.out.mono ?_
  rintro e w1 ⟨a1, n1, c1, g1, rfl, hr1, ha1, hb1, hn1, ho1⟩
  have HR1 := Lib.hid (Row.of_owns hr1)
  have hln1 := owns_length hr1
  obtain ⟨aL, nL, cL, q0, hown, hgl⟩ := hb1.c0
  have HRL := Lib.hid (RowS.of_owns hown)
  have hlnL := ownsS_length hown
  have HB1 := Lib.hid hb1
  have HO1 := Lib.hid ho1
  have hlt1 := hb1.lt
  have HS1 : Hid (Sink (w1.alloc (.cells #[.slice none 0 0] 22)) w1.heap.size w1.heap.size []) := Lib.hid ⟨none, 0, 0, Boxed.new w1 22 (.slice none 0 0), World.ownsRow_nil _ _ _ _⟩
  have KE := Lib.hid (fun (N : Nat) (xs : List Int) (W : World) (h : Sink W w1.heap.size w1.heap.size xs) (hN : N ≤ 9223372036854775807) (hl : xs.length ≤ 90000) => packEach W w1.heap.size w1.heap.size N xs h (Nat.le_refl _) hN hl)
  have KS := Lib.hid (fun (s : ByteArray) (xs : List Int) (W : World) (h : Sink W w1.heap.size w1.heap.size xs) (hs : s.size ≤ 60) (hl : xs.length ≤ 80000) => packStr W w1.heap.size w1.heap.size s xs h (Nat.le_refl _) hs hl)
  unfold PutAll at KE KS
  have HLN1 := Lib.hid hln1
  have HLNL := Lib.hid hlnL
  have hnL : nL ≤ 480 := by omega
  have hn11 : n1 ≤ 801 := by omega
  have K0 := Lib.hid (KE.out nL [] _ HS1.out (by omega) (by simp))
  clear hr1 ha1 hb1 hn1 ho1 hown hgl hln1 hlnL
  go_wp2_with fail
  refine K0.out.mono ?_
  rintro e w2 ⟨rfl, hs2, hb2⟩
  have hlen9 := vput_len9 nL (by omega)
  rw [List.nil_append] at hs2
  have HS2 := Lib.hid hs2
  have HB2 : Hid (Below w1.heap.size w1 w2) := Lib.hid ((below1 w1 _).trans hb2)
  have p0 := (HB2.out.cell (p := ⟨b, 0, none⟩) hlt1).trans q0
  clear hs2 hb2 q0
  go_wp2
  go_loopw [28] (fun i wr => ∃ k : Nat, i = .int .i64 k ∧ k ≤ nL ∧ Sink wr w1.heap.size w1.heap.size (vput nL ++ (F.take k).flatMap strB) ∧ Below w1.heap.size w1 wr) (fun i _ => nL - (intOf i).toNat)
  case atStart => exact ⟨0, rfl, Nat.zero_le _, by simpa using HS2.out, HB2.out⟩
  case round =>
    obtain ⟨k, rfl, hk, hsk, hbk⟩ := hrel
    have HSK := Lib.hid hsk
    have HBK := Lib.hid hbk
    clear hsk hbk
    by_cases hlt : k < nL
    · obtain ⟨bL, oL, capL, hv, h1, h2, h3, h4⟩ := HRL.out.resolve_left (fun e => by
        have e2 := e.1
        simp only [Value.slice.injEq] at e2
        omega)
      simp only [Value.slice.injEq] at hv
      obtain ⟨rfl, hv2, rfl⟩ := hv
      have d1 := (HBK.out.cell (p := ⟨bL, oL + k, none⟩) h3).trans (h4 k (by omega))
      have hmem : F.getD k ByteArray.empty ∈ F := getD_memI (by omega)
      have hsz := HST.out _ hmem
      have hfs := flat_succ strB F ByteArray.empty k (by omega)
      have htl := take_flat strB F k
      generalize F.getD k ByteArray.empty = s at d1 hsz hfs
      have HFS := Lib.hid hfs
      have K1 := Lib.hid (KS.out s _ wr HSK.out hsz (by have := HFL.out; rw [List.length_append]; omega))
      have k7 : (k : Int) < (nL : Int) := by omega
      clear h4 hmem hfs hv2
      go_wp2_with fail
      refine K1.out.mono ?_
      rintro e w3 ⟨rfl, hs3, hb3⟩
      have HS3 := Lib.hid hs3
      have HB3 := Lib.hid (HBK.out.trans hb3)
      clear hs3 hb3
      go_wp2
      go_roundw
      case rel => exact ⟨k + 1, by go_num, by omega, by rw [HFS.out, ← List.append_assoc]; exact HS3.out, HB3.out⟩
      case measure => simp [intOf]; omega
    · obtain rfl : k = nL := by omega
      have hs3 := HSK.out
      rw [show F.take k = F by rw [HLNL.out, List.take_length]] at hs3
      have HS3 := Lib.hid hs3
      clear hs3
      go_wp2
      go_loopw [38] (fun i wz => ∃ j : Nat, i = .int .i64 j ∧ j ≤ n1 ∧ Sink wz w1.heap.size w1.heap.size (vput k ++ F.flatMap strB ++ (NS.take j).flatMap vI) ∧ Below w1.heap.size w1 wz) (fun i _ => n1 - (intOf i).toNat)
      case atStart => exact ⟨0, rfl, Nat.zero_le _, by simpa using HS3.out, HBK.out⟩
      case round =>
        obtain ⟨j, rfl, hj, hsj, hbj⟩ := hrel
        have HSJ := Lib.hid hsj
        have HBJ := Lib.hid hbj
        clear hsj hbj
        by_cases hlj : j < n1
        · obtain ⟨b4, o4, cap4, hv, h1, h2, h3, h4⟩ := HR1.out.resolve_left (fun e => by
            have e2 := e.1
            simp only [Value.slice.injEq] at e2
            omega)
          simp only [Value.slice.injEq] at hv
          obtain ⟨rfl, hv2, rfl⟩ := hv
          have d1 := (HBJ.out.cell (p := ⟨b4, o4 + j, none⟩) h3).trans (h4 j (by omega))
          have hmem : NS.getD j 0 ∈ NS := getD_memI (by omega)
          have hz := HBD.out _ hmem
          have hfs := flat_succ vI NS 0 j (by omega)
          have htl := take_flat vI NS j
          generalize NS.getD j 0 = z at d1 hz hfs
          obtain ⟨Z, rfl⟩ : ∃ Z : Nat, z = Z := ⟨z.toNat, by omega⟩
          have hfs2 : (NS.take (j + 1)).flatMap vI = (NS.take j).flatMap vI ++ vput Z := by rw [hfs]; unfold vI; rw [Int.toNat_natCast]
          have HFS := Lib.hid hfs2
          have K1 := Lib.hid (KE.out Z _ _ HSJ.out (by omega) (by have h1 := HFL.out; have h2 := HVL.out; rw [List.length_append, List.length_append]; omega))
          have k7 : (j : Int) < (n1 : Int) := by omega
          clear h4 hmem hfs hv2 hfs2
          go_wp2_with fail
          refine K1.out.mono ?_
          rintro e w3 ⟨rfl, hs3, hb3⟩
          have HS3 := Lib.hid hs3
          have HB3 := Lib.hid (HBJ.out.trans hb3)
          clear hs3 hb3
          go_wp2
          go_roundw
          case rel => exact ⟨j + 1, by go_num, by omega, by rw [HFS.out, ← List.append_assoc]; exact HS3.out, HB3.out⟩
          case measure => simp [intOf]; omega
        · obtain rfl : j = n1 := by omega
          have hs4 := HSJ.out
          rw [show NS.take j = NS by rw [HLN1.out, List.take_length]] at hs4
          obtain ⟨af, nf, cf, hv, ho⟩ := hs4
          have hcf := hv.cell
          have HO := Lib.hid ho
          clear hv ho
          go_wp2
          go_ret
          exact ⟨af, nf, cf, rfl, owns_mono (by rw [← HLNL.out]; exact HO.out) HO1.out.size, HB1.out.on.trans (Only.below HBJ.out), HO1.out.trans (Only.below HBJ.out)⟩
end Go.Proofs.YtbfjhjkllaceaaaGreatDoor

/- impl.isTree, impl.TreeFault. -/
namespace Go.Proofs.YtbfjhjkllaceaaaGreatDoor
open Go.ChangeShapes Go.WideShapes Go.ChangeAt Go.RowKit
set_option linter.unusedVariables false

set_option maxRecDepth 100000 in
set_option maxHeartbeats 6400000 in
theorem implIsTree_any (a : Option Addr) (n c : Nat) (l : List It) (w : World) (h1 : 1 ≤ n) (h40 : n ≤ 40) (hd : ∀ i, i < n → 0 ≤ (l.getD i dIt).depth ∧ (l.getD i dIt).depth ≤ 6) (h : ItsAt w a n c l) :
    Calls Tryz.prog 49 #[.slice a n c] w fun e w' => e = .returned (.bool (stands l)) ∧ ∃ n, w' = w.drewN n := by
  have HL := Lib.hid h.len
  have HD := Lib.hid hd
  obtain ⟨b, o, rfl, h4⟩ : ∃ b o, a = some ⟨b, o, none⟩ ∧ ∀ i, i < n → ItAt w b (o + i * 5) (l.getD i dIt) := by
    rcases h.row with e | h
    · omega
    · exact h
  have H4 := Lib.hid h4
  have HNO : Hid (¬ ((l.getD 0 dIt).depth = 0 ∧ (l.getD 0 dIt).name.toList.isEmpty = false) → stands l = false) := Lib.hid stands_first
  have HNO2 : Hid (∀ i, 1 ≤ i → i < n → mayStand (l.getD (i - 1) dIt) (l.getD i dIt) = false → stands l = false) := Lib.hid fun i h1 h2 h3 => stands_no h1 (by have := h.len; omega) h3
  have HYES : Hid ((l.getD 0 dIt).depth = 0 → (l.getD 0 dIt).name.toList.isEmpty = false → (∀ i, 1 ≤ i → i < n → mayStand (l.getD (i - 1) dIt) (l.getD i dIt) = true) → stands l = true) := Lib.hid fun g0 g1 g2 => stands_yes g0 g1 fun i h1 h2 => g2 i h1 (by have := h.len; omega)
  clear h h4 hd
  generalize stands l = st at HNO HNO2 HYES
  have hi := H4.out 0 (by omega)
  have d0 : w.cell? ⟨b, o, none⟩ = some (.int .i64 (l.getD 0 dIt).depth) := by have := hi.c0; simpa using this
  have d3 : w.cell? ⟨b, o + 3, none⟩ = some (.string (l.getD 0 dIt).name) := by have := hi.c3; simpa using this
  clear hi
  have k0 : (0 : Int) < (n : Int) := by omega
  generalize l.getD 0 dIt = x at d0 d3 HNO HYES
  obtain ⟨xd, xt, xs, xn, xa⟩ := x
  dsimp only at d0 d3 HNO HYES
  by_cases hx0 : xd = 0
  · subst hx0
    cases hx3 : xn.toList.isEmpty
    · have HY2 := Lib.hid (HYES.out rfl hx3)
      clear HNO HYES
      go_enter Tryz.func49, Tryz.ntmps49
      go_wp2
      clear d0 d3 hx3
      go_loopw [3] (fun i wr => ∃ k : Nat, 1 ≤ k ∧ k ≤ n ∧ i = .int .i64 k ∧ (∀ j, 1 ≤ j → j < k → mayStand (l.getD (j - 1) dIt) (l.getD j dIt) = true) ∧ ∃ nd, wr = w.drewN nd) (fun i _ => n - (intOf i).toNat)
      case atStart => exact ⟨1, Nat.le_refl _, by omega, rfl, fun j h1 h2 => by omega, 0, rfl⟩
      case round =>
        obtain ⟨k, hk1, hk, rfl, hz, hw⟩ := hrel
        have HW := Lib.hid hw
        have HZ := Lib.hid hz
        clear hz hw
        by_cases hlt : k < n
        · have hbw : Below w.heap.size w wr := by obtain ⟨nd, rfl⟩ := HW.out; exact below_drewN (Below.refl _ _) nd
          have hi := (H4.out k hlt).below hbw
          have hj := (H4.out (k - 1) (by omega)).below hbw
          have d0 := hi.c0
          have d3 := hi.c3
          have e0 := hj.c0
          have e3 := hj.c3
          have hdx := HD.out k hlt
          have hdp := HD.out (k - 1) (by omega)
          have KF := Lib.hid (fun (m : Nat) => mayFollow_any b (o + (k - 1) * 5) b (o + k * 5) (l.getD (k - 1) dIt) (l.getD k dIt) (wr.drewN m) (hj.below (below_drewN (Below.refl _ _) m)) (hi.below (below_drewN (Below.refl _ _) m)) hdp)
          clear hi hj hbw
          have HN2 : Hid (mayStand (l.getD (k - 1) dIt) (l.getD k dIt) = false → st = false) := Lib.hid (HNO2.out k hk1 hlt)
          have HY3 : Hid (mayStand (l.getD (k - 1) dIt) (l.getD k dIt) = true → ∀ j, 1 ≤ j → j < k + 1 → mayStand (l.getD (j - 1) dIt) (l.getD j dIt) = true) := Lib.hid fun e j h1 h2 => by
            rcases Nat.lt_or_ge j k with h | h
            · exact HZ.out j h1 h
            · obtain rfl : j = k := by omega
              exact e
          have q5 : (0 : Int) ≤ (k : Int) - 1 := by omega
          have q6 : (1 : Int) ≤ (k : Int) := by omega
          have q7 : (k : Int) - 1 < (n : Int) := by omega
          have q8 : (k : Int) < (n : Int) := by omega
          generalize l.getD k dIt = x at d0 d3 hdx HN2 HY3 KF
          generalize l.getD (k - 1) dIt = p at e0 e3 hdp HN2 HY3 KF
          obtain ⟨xd, xt, xs, xn, xa⟩ := x
          obtain ⟨pd, pt, ps, pn, pa⟩ := p
          unfold mayStand at HN2 HY3
          dsimp only at d0 d3 e0 e3 hdx hdp HN2 HY3 KF
          obtain ⟨xe, hxe⟩ : ∃ xe, xn.toList.isEmpty = xe := ⟨_, rfl⟩
          obtain ⟨pe, hpe⟩ : ∃ pe, pn.toList.isEmpty = pe := ⟨_, rfl⟩
          rw [hxe, hpe] at HN2 HY3
          cases g0 : xd == 0
          · have K := Lib.hid (fun m => KF.out m)
            rw [hxe, hpe] at K
            rw [stand_follow g0] at HN2 HY3
            clear KF
            generalize followB xd pd xe pe = fb at K HN2 HY3
            cases fb
            · have HF := Lib.hid (HN2.out rfl)
              clear HN2 HY3
              go_wp2_with fail
              go_quiet ((go_at_call 79; exact Calls.quiet_of (K.out _)))
              go_wp2
              go_ret
              exact ⟨ret_bool HF.out.symm, drew_more HW.out _⟩
            · have HF := Lib.hid (HY3.out rfl)
              clear HN2 HY3
              go_wp2_with fail
              go_quiet ((go_at_call 79; exact Calls.quiet_of (K.out _)))
              go_wp2
              go_roundw
              case rel => exact ⟨k + 1, by omega, by omega, by go_num, HF.out, drew_more HW.out _⟩
              case measure => simp [intOf]; omega
          · have HF := Lib.hid (HN2.out (stand_zero g0))
            clear HN2 HY3 KF
            go_wp2_with fail
            go_quiet (fail)
            go_wp2
            go_ret
            exact ⟨ret_bool HF.out.symm, drew_more HW.out _⟩
        · have HF : st = true := HY2.out fun i h1 h2 => HZ.out i h1 (by omega)
          go_wp2
          go_ret
          exact ⟨ret_bool HF.symm, HW.out⟩
    · have HF := Lib.hid (HNO.out (fun e => by have := e.2; rw [hx3] at this; cases this))
      go_enter Tryz.func49, Tryz.ntmps49
      go_wp2
      go_ret
      exact ⟨ret_bool HF.out.symm, 0, rfl⟩
  · have HF := Lib.hid (HNO.out (fun e => hx0 e.1))
    have q1 : (xd != 0) = true := by simpa using hx0
    have q2 : (xd == 0) = false := by simpa using hx0
    clear hx0
    go_enter Tryz.func49, Tryz.ntmps49
    go_wp2
    go_ret
    exact ⟨ret_bool HF.out.symm, 0, rfl⟩

set_option maxRecDepth 100000 in
set_option maxHeartbeats 3200000 in
theorem implTreeFault_any (a : Option Addr) (n c : Nat) (l : List It) (w : World) (hT : Tabs w) (h : ItsAt w a n c l) :
    Calls Tryz.prog 26 #[.slice a n c] w fun e w' => e = .returned (.int .i64 (treeCode l)) ∧ Below w.heap.size w w' := by
  have hm := h.max
  have HL := Lib.hid h.len
  have H := Lib.hid h
  have HT := Lib.hid hT
  clear hT
  by_cases hn : n < 1 ∨ 40 < n
  · have HC := Lib.hid (treeCode_many (l := l) (by have := h.len; omega))
    clear h
    generalize treeCode l = cd at HC
    rcases hn with hn | hn
    · obtain rfl : n = 0 := by omega
      go_enter Tryz.func26, Tryz.ntmps26
      go_wp2
      go_ret
      exact ⟨ret_i HC.out.symm, Below.refl _ _⟩
    · go_enter Tryz.func26, Tryz.ntmps26
      go_wp2
      go_ret
      exact ⟨ret_i HC.out.symm, Below.refl _ _⟩
  · have h1 : 1 ≤ n := by omega
    have h40 : n ≤ 40 := by omega
    have HC1 : Hid (∀ k, k < n → (∀ j, j < k → itemCode (l.getD j dIt) = 0) → itemCode (l.getD k dIt) ≠ 0 → treeCode l = itemCode (l.getD k dIt)) := Lib.hid fun k hk h0 h1 => treeCode_at (by have := h.len; omega) (by have := h.len; omega) h0 h1
    have HC2 : Hid ((∀ j, j < n → itemCode (l.getD j dIt) = 0) → treeCode l = if stands l = true then 0 else 1) := Lib.hid fun h0 => treeCode_end (by have := h.len; omega) (fun j hj => h0 j (by have := h.len; omega))
    obtain ⟨b, o, rfl, h4⟩ : ∃ b o, a = some ⟨b, o, none⟩ ∧ ∀ i, i < n → ItAt w b (o + i * 5) (l.getD i dIt) := by
      rcases h.row with e | h
      · omega
      · exact h
    have H4 := Lib.hid h4
    clear h hn h4
    generalize treeCode l = cd at HC1 HC2
    go_enter Tryz.func26, Tryz.ntmps26
    go_wp2
    go_loopw [16] (fun i wr => ∃ k : Nat, k ≤ n ∧ i = .int .i64 k ∧ (∀ j, j < k → itemCode (l.getD j dIt) = 0) ∧ Below w.heap.size w wr) (fun i _ => n - (intOf i).toNat)
    case atStart => exact ⟨0, Nat.zero_le _, rfl, fun j hj => by omega, Below.refl _ _⟩
    case round =>
      obtain ⟨k, hk, rfl, hz, hb⟩ := hrel
      have HK := Lib.hid hz
      clear hz
      by_cases hlt : k < n
      · have hi := (H4.out k hlt).below hb
        have d0 := hi.c0
        have d1 := hi.c1
        have d2 := hi.c2
        have d3 := hi.c3
        obtain ⟨a4, n4, c4, d4, hat⟩ := hi.c4
        have k1 : (k : Int) < (n : Int) := by omega
        have K := Lib.hid (fun W (hb' : Below wr.heap.size wr W) => implItemFault_any (l.getD k dIt) a4 n4 c4 W (tabs_kept HT.out (below_then hb hb')) hi.wf hi.size (hat.below hb'))
        have HY : Hid (itemCode (l.getD k dIt) ≠ 0 → cd = itemCode (l.getD k dIt)) := Lib.hid (HC1.out k hlt HK.out)
        have HK2 : Hid (itemCode (l.getD k dIt) = 0 → ∀ j, j < k + 1 → itemCode (l.getD j dIt) = 0) := Lib.hid fun hx j hj => by
          rcases Nat.lt_or_ge j k with h | h
          · exact HK.out j h
          · obtain rfl : j = k := by omega
            exact hx
        have HB := Lib.hid hb
        have hltb := hi.lt
        clear hi hat hb
        generalize itemCode (l.getD k dIt) = ic at K HY HK2
        generalize l.getD k dIt = x at d0 d1 d2 d3 K
        obtain ⟨xd, xt, xs, xn, xa⟩ := x
        dsimp only at d0 d1 d2 d3 K
        by_cases h0 : ic = 0
        · subst h0
          have HK3 := Lib.hid (HK2.out rfl)
          clear HK2 HY
          go_wp2_with fail
          refine (K.out _ (below1 _ _)).mono ?_
          rintro e w2 ⟨rfl, hb2⟩
          go_wp2
          go_roundw
          case rel => exact ⟨k + 1, by omega, by go_num, HK3.out, below_then HB.out (below_then (below1 _ _) hb2)⟩
          case measure => simp [intOf]; omega
        · have HY2 := Lib.hid (HY.out h0)
          have q1 : (ic != 0) = true := by simpa using h0
          have q2 : (ic == 0) = false := by simpa using h0
          clear HK2 HY h0
          go_wp2_with fail
          refine (K.out _ (below1 _ _)).mono ?_
          rintro e w2 ⟨rfl, hb2⟩
          go_wp2
          go_ret
          exact ⟨ret_i HY2.out.symm, below_then HB.out (below_then (below1 _ _) hb2)⟩
      · obtain rfl : k = n := by omega
        have K := Lib.hid (implIsTree_any (some ⟨b, o, none⟩) k c l wr h1 h40 (fun i hi => item_depth (HK.out i hi)) (H.out.below hb))
        have HC3 := Lib.hid (HC2.out HK.out)
        generalize stands l = st at K HC3
        clear HC1 HC2
        cases st
        all_goals
          go_wp2_with fail
          refine K.out.mono ?_
          rintro e w2 ⟨rfl, nd, rfl⟩
          go_wp2
          go_ret
          exact ⟨ret_i HC3.out.symm, below_drewN hb nd⟩
end Go.Proofs.YtbfjhjkllaceaaaGreatDoor

/- Plain words on points that are put and read again: no run in this text. -/
namespace Go.Proofs.YtbfjhjkllaceaaaGreatDoor
open Go.Lib
set_option linter.unusedVariables false

theorem bytesI_length (l : List UInt8) : (bytesI l).length = l.length := by unfold bytesI; simp
theorem by_bytesI (l : List UInt8) (i : Nat) : by' l i = (bytesI l).getD i 0 := by
  unfold by' bytesI
  rw [List.getD_eq_getElem?_getD, List.getD_eq_getElem?_getD, List.getElem?_map]
  cases l[i]? <;> simp
theorem enc_core (l : List UInt8) (n : Nat) (p : Int) (h : pointB p = true) (hl : bytesI l = encodeRuneZ p) (hlen : l.length = n) (hn : 0 < n) (hlead : leadN (by' l 0) = n) (hf : foldP l n = p) : strm l = [(p, true)] := by
  have hne : l ≠ [] := fun e => by rw [e] at hlen; simp at hlen; omega
  have hi := first_is l hne (by omega) (by omega)
  rw [hlead] at hi
  have ok : FirstOk l n := ⟨by rw [hf]; exact h, by rw [hf, ← hl, List.take_of_length_le (by omega)]⟩
  have hb := hi.1.1 ok
  obtain ⟨h1, h2⟩ := hi.2 hb
  rw [strm_step l hne hb, h1, hf, h2, List.drop_of_length_le (by omega), strm_nil]
theorem enc_strm (l : List UInt8) (p : Int) (h : pointB p = true) (hl : bytesI l = encodeRuneZ p) : strm l = [(p, true)] := by
  have hlen := bytesI_length l
  have hp := (pointB_iff p).1 h
  have q0 := by_bytesI l 0
  have q1 := by_bytesI l 1
  have q2 := by_bytesI l 2
  have q3 := by_bytesI l 3
  rcases enc_cases p h with ⟨c, e⟩ | ⟨c1, c2, e⟩ | ⟨c1, c2, e⟩ | ⟨c, e⟩
  · rw [hl, e] at q0 hlen
    simp at q0 hlen
    refine enc_core l 1 p h hl (by omega) (by omega) (by unfold leadN; rw [q0, if_pos c]) ?_
    rw [foldP_1, leadP_1 (by omega), q0]
  · rw [hl, e] at q0 q1 hlen
    simp at q0 q1 hlen
    refine enc_core l 2 p h hl (by omega) (by omega) (by unfold leadN; rw [if_neg (by omega), if_pos (by omega)]) ?_
    rw [foldP_2, leadP_2 (by omega), q0, q1]
    omega
  · rw [hl, e] at q0 q1 q2 hlen
    simp at q0 q1 q2 hlen
    refine enc_core l 3 p h hl (by omega) (by omega) (by unfold leadN; rw [if_neg (by omega), if_neg (by omega), if_pos (by omega)]) ?_
    rw [foldP_3, leadP_3 (by omega), q0, q1, q2]
    omega
  · rw [hl, e] at q0 q1 q2 q3 hlen
    simp at q0 q1 q2 q3 hlen
    refine enc_core l 4 p h hl (by omega) (by omega) (by unfold leadN; rw [if_neg (by omega), if_neg (by omega), if_neg (by omega), if_pos (by omega)]) ?_
    rw [foldP_4, leadP_4 (by omega), q0, q1, q2, q3]
    omega
theorem bytesI_nums (xs : List Int) (h : ∀ x ∈ xs, 0 ≤ x ∧ x < 256) : bytesI (strOfNums xs).data.toList = xs := by
  rw [strOfNums_data]
  exact ((ofNums_inj xs _ h).1 rfl).symm
theorem nums_bytesI (s : ByteArray) : strOfNums (bytesI s.data.toList) = s := by
  have h := strOfNums_data (bytesI s.data.toList)
  have h2 := (ofNums_inj (bytesI s.data.toList) s.data.toList (fun x hx => by
    unfold bytesI at hx
    obtain ⟨c, _, rfl⟩ := List.mem_map.1 hx
    have := c.toNat_lt
    omega)).2 rfl
  rw [h2] at h
  cases s with
  | mk d =>
    generalize strOfNums _ = t at h ⊢
    cases t with
    | mk d2 =>
      congr 1
      exact Array.ext' h
/-- what is put is read as one point -/
theorem put_read (p : Int) (h : pointB p = true) : ptsList (strOfNums (encodeRuneZ p)).data.toList = [p] := by
  have hs := enc_strm _ p h (bytesI_nums _ (encodeRuneZ_byte p))
  have hl : (strOfNums (encodeRuneZ p)).data.toList.length ≤ 4 := by
    have := Lib.encodeRuneZ_length p
    have h2 := strOfNums_size (encodeRuneZ p)
    simp only [Array.length_toList]
    show (strOfNums (encodeRuneZ p)).size ≤ 4
    omega
  unfold ptsList pts
  rw [hs, if_neg (by omega)]
  simp

theorem pts_strm {l : List UInt8} {L : List Int} (h : pts l = some L) : strm l = L.map (fun p => (p, true)) := by
  unfold pts at h
  split at h
  · rename_i ha
    injection h with h
    rw [← h, List.map_map]
    refine (List.map_id _).symm.trans (List.map_congr_left fun x hx => ?_)
    have := List.all_eq_true.1 ha x hx
    cases x with
    | mk a b =>
      simp at this
      simp [this]
  · cases h
theorem strm_join : ∀ (n : Nat) (l : List UInt8) (L : List Int), l.length ≤ n → strm l = L.map (fun p => (p, true)) → bytesI l = L.flatMap encodeRuneZ ∧ ∀ p ∈ L, pointB p = true
  | 0, l, L, hn, h => by
    have : l = [] := List.eq_nil_of_length_eq_zero (by omega)
    subst this
    rw [strm_nil] at h
    have : L = [] := by simpa using h.symm
    subst this
    exact ⟨rfl, by simp⟩
  | n + 1, l, L, hn, h => by
    by_cases h0 : l = []
    · subst h0
      rw [strm_nil] at h
      have : L = [] := by simpa using h.symm
      subst this
      exact ⟨rfl, by simp⟩
    · cases hb : badB l
      · have hd := drop_lt l h0
        rw [strm_step l h0 hb] at h
        cases L with
        | nil => simp at h
        | cons p L =>
          rw [List.map_cons, List.cons.injEq] at h
          obtain ⟨h1, h2⟩ := h
          obtain ⟨i1, i2⟩ := strm_join n _ L (by omega) h2
          have hlead : leadN (by' l 0) ≠ 0 ∧ leadN (by' l 0) ≤ l.length := by
            refine Decidable.byContradiction fun hc => ?_
            have := bad_lead l h0 (by omega)
            rw [hb] at this
            cases this
          have hi := first_is l h0 hlead.1 hlead.2
          obtain ⟨o1, o2⟩ := hi.1.2 hb
          obtain ⟨e1, e2⟩ := hi.2 hb
          have hp : p = foldP l (leadN (by' l 0)) := by
            have h3 := congrArg Prod.fst h1
            exact h3.symm.trans e1
          rw [← hp] at o1 o2
          rw [e2] at i1
          refine ⟨?_, fun q hq => ?_⟩
          · rw [List.flatMap_cons, o2, ← i1]
            unfold bytesI
            rw [← List.map_append, List.take_append_drop]
          · rcases List.mem_cons.1 hq with rfl | hq
            · exact o1
            · exact i2 q hq
      · rw [strm_bad l h0 hb] at h
        cases L with
        | nil => simp at h
        | cons p L => simp at h

/-- the points of a text, put one behind the other, are the text -/
theorem read_put (s : ByteArray) (h : ptsCode s.data.toList = 0) : strOfNums ((ptsList s.data.toList).flatMap encodeRuneZ) = s ∧ ∀ p ∈ ptsList s.data.toList, pointB p = true := by
  unfold ptsCode at h
  split at h
  · cases h
  · rename_i hn
    split at h
    · rename_i hp
      obtain ⟨L, hL⟩ := Option.isSome_iff_exists.1 hp
      obtain ⟨a, b⟩ := strm_join _ _ L (Nat.le_refl _) (pts_strm hL)
      unfold ptsList
      rw [if_neg hn, hL, Option.getD_some, ← a]
      exact ⟨nums_bytesI s, b⟩
    · cases h
theorem fault_none (l : List UInt8) (h : ptsCode l ≠ 0) : ptsList l = [] := by
  unfold ptsCode at h
  unfold ptsList
  split at h
  · rename_i hn
    rw [if_pos hn]
  · rename_i hn
    rw [if_neg hn]
    split at h
    · exact absurd rfl h
    · rename_i hp
      cases hq : pts l
      · rfl
      · rw [hq] at hp
        simp at hp

theorem ascii_chars : ∀ (l : List UInt8), (∀ c ∈ l, c.toNat < 128 ∧ charB (c.toNat : Int) = true) → (strm l).all goodB = true
  | [], _ => by rw [strm_nil]; rfl
  | c :: l, h => by
    obtain ⟨h1, h2⟩ := h c (by simp)
    have hb0 : by' (c :: l) 0 = (c.toNat : Int) := rfl
    have hi := first1 (c :: l) (by simp) (by rw [hb0]; omega)
    have hf : foldP (c :: l) 1 = (c.toNat : Int) := by rw [foldP_1, leadP_1 (by rw [hb0]; omega), hb0]
    have ok : FirstOk (c :: l) 1 := by
      obtain ⟨n1, n2⟩ := num1 c.toNat h1
      exact ⟨by rw [hf]; exact n1, by rw [hf, n2]; rfl⟩
    have hb := hi.1.1 ok
    obtain ⟨e1, e2⟩ := hi.2 hb
    have ih := ascii_chars l (fun x hx => h x (by simp [hx]))
    rw [strm_step _ (by simp) hb, e1, e2, hf]
    simp only [List.drop_succ_cons, List.drop_zero, List.all_cons, ih, goodB, h2, Bool.and_self]
end Go.Proofs.YtbfjhjkllaceaaaGreatDoor

/- Plain words: a name has no fault as a text. -/
namespace Go.Proofs.YtbfjhjkllaceaaaGreatDoor
open Go.Lib
set_option linter.unusedVariables false

theorem name_char (c : Int) (h0 : 0 ≤ c) (h : nameB c = true) : c < 128 ∧ charB c = true := by
  simp [nameB, letterB] at h
  constructor
  · omega
  · have hp : pointB c = true := (pointB_iff c).2 (by omega)
    simp [charB, hp]
    omega
/-- a name has no fault as a text -/
theorem name_text (l : List UInt8) (h : isNameL l = true) : textFault l = 0 := by
  unfold isNameL at h
  simp only [Bool.and_eq_true, decide_eq_true_eq] at h
  obtain ⟨⟨⟨_, h1⟩, _⟩, h2⟩ := h
  unfold textFault charsB
  rw [if_neg (by omega), ascii_chars l (fun c hc => by
    have := List.all_eq_true.1 h2 c hc
    obtain ⟨a, b⟩ := name_char _ (by omega) this
    exact ⟨by omega, b⟩)]
  rfl
end Go.Proofs.YtbfjhjkllaceaaaGreatDoor

/- Plain facts: a frame that was packed is read again, and is the one of its tree: no run in this text. -/
namespace Go.Proofs.YtbfjhjkllaceaaaGreatDoor
set_option linter.unusedVariables false

/-- the form of a number's bytes -/
theorem vputForm : ∀ (m N : Nat), N ≤ m → ∃ (l : List Int) (z : Int), vput N = l ++ [z] ∧ (∀ x ∈ l, 128 ≤ x ∧ x ≤ 255) ∧ 0 ≤ z ∧ z < 128 ∧ (l = [] ∨ z ≠ 0) ∧ vval (vput N) = N := by
  intro m
  induction m with
  | zero =>
    intro N h
    obtain rfl : N = 0 := by omega
    exact ⟨[], 0, by rw [vput_small (by omega)]; rfl, fun x hx => by simp at hx, by omega, by omega, .inl rfl, by rw [vput_small (by omega)]; simp [vval]⟩
  | succ m ih =>
    intro N h
    by_cases hs : N < 128
    · exact ⟨[], N, by rw [vput_small hs]; rfl, fun x hx => by simp at hx, by omega, by omega, .inl rfl, by rw [vput_small hs]; simp [vval]; omega⟩
    · obtain ⟨l, z, h1, h2, h3, h4, h5, h6⟩ := ih (N / 128) (by omega)
      refine ⟨(128 + (N : Int) % 128) :: l, z, by rw [vput_big hs, h1]; rfl, ?_, h3, h4, .inr ?_, ?_⟩
      · intro x hx
        rcases List.mem_cons.1 hx with rfl | hx
        · omega
        · exact h2 x hx
      · rcases h5 with h5 | h5
        · intro hz
          subst h5
          rw [h1] at h6
          simp [vval, hz] at h6
          omega
        · exact h5
      · rw [vput_big hs]
        simp only [vval, h6]
        omega
/-- what is put is read again, whatever stands behind it -/
theorem vreadApp (N : Nat) (D : List Int) (hN : N ≤ 9223372036854775807) : vreadOk (vput N ++ D) = true ∧ vreadN (vput N ++ D) = N ∧ vreadK (vput N ++ D) = (vput N).length := by
  obtain ⟨l, z, h1, h2, h3, h4, h5, h6⟩ := vputForm N N (Nat.le_refl _)
  have h9 := vput_len9 N hN
  have hlen : (vput N).length = l.length + 1 := by rw [h1]; simp
  have hg : ∀ i, i < l.length → (vput N ++ D).getD i 0 = l.getD i 0 := fun i hi => by
    rw [h1, List.append_assoc]
    simp [List.getD_eq_getElem?_getD, List.getElem?_append_left hi]
  have hz : (vput N ++ D).getD l.length 0 = z := by
    rw [h1, List.append_assoc]
    simp [List.getD_eq_getElem?_getD]
  have hl : lead (vput N ++ D) = l.length := by
    refine lead_is _ _ (fun i hi => ?_) (by simp; omega) (by omega) (fun _ _ => by rw [hz]; exact h4)
    rw [hg i hi, List.getD_eq_getElem?_getD, List.getElem?_eq_getElem hi]
    exact (h2 _ (List.getElem_mem hi)).1
  have hok : vreadOk (vput N ++ D) = true := by
    unfold vreadOk
    rw [decide_eq_true_iff, hl, hz]
    refine ⟨by simp; omega, by omega, ?_⟩
    rcases h5 with h5 | h5
    · left; rw [h5]; rfl
    · right; exact h5
  obtain ⟨e1, e2⟩ := read_some hl hok
  refine ⟨hok, ?_, by rw [e2, hlen]⟩
  rw [e1, ← hlen, List.take_left, h6]
/-- a string put is read again, whatever stands behind it -/
theorem sreadApp (t : ByteArray) (D : List Int) (ht : textFault t.data.toList = 0) : sOk (strB t ++ D) = true ∧ stxt (strB t ++ D) = t ∧ ssz (strB t ++ D) = (strB t).length := by
  have h60 : t.size ≤ 60 := goodText ht
  have hl : t.data.toList.length = t.size := by simp
  have hp : strB t = vput t.size ++ bytesI t.data.toList := rfl
  obtain ⟨h1, h2, h3⟩ := vreadApp t.size (bytesI t.data.toList ++ D) (by omega)
  have hbl : (bytesI t.data.toList).length = t.size := by rw [bytesI_length, hl]
  rw [← List.append_assoc, ← hp] at h1 h2 h3
  have hbody : sbody (strB t ++ D) = t := by
    unfold sbody
    rw [h2, h3, hp, List.append_assoc, List.drop_left, Int.toNat_natCast, ← hbl, List.take_left]
    exact nums_bytesI t
  have hok : sOk (strB t ++ D) = true := by
    unfold sOk
    rw [h1, hbody, ht, h2, h3, hp]
    simp [hbl]
    omega
  obtain ⟨e1, e2⟩ := s_some hok
  refine ⟨hok, by rw [e1, hbody], ?_⟩
  rw [e2, h2, h3, hp]
  simp [hbl]

theorem num_app (N : Nat) (D : List Int) (hN : N ≤ 9223372036854775807) : numV ⟨vput N ++ D, false⟩ = N ∧ numR ⟨vput N ++ D, false⟩ = ⟨D, false⟩ := by
  obtain ⟨h1, h2, h3⟩ := vreadApp N D hN
  have hp := vput_pos N
  unfold numV numR
  simp only [h3, h2]
  rw [if_neg (by rintro (h | h); omega; cases h), if_neg (by rintro (h | h); omega; cases h), List.drop_left]
  exact ⟨rfl, rfl⟩
/-- the place of a text that is there -/
theorem has_at {ts : List ByteArray} {t : ByteArray} (h : 0 ≤ hasIx ts t) : ∃ i : Nat, i < ts.length ∧ hasIx ts t = i ∧ ts.getD i ByteArray.empty = t := by
  unfold hasIx at h ⊢
  by_cases hlt : ts.findIdx (fun x => x.toList == t.toList) < ts.length
  · rw [if_pos hlt]
    refine ⟨_, hlt, rfl, ?_⟩
    have := List.findIdx_getElem (xs := ts) (p := fun x => x.toList == t.toList) (w := hlt)
    rw [List.getD_eq_getElem?_getD, List.getElem?_eq_getElem hlt]
    exact same_text.1 this
  · rw [if_neg hlt] at h
    omega
theorem txt_app (ts : List ByteArray) (t : ByteArray) (D : List Int) (h : 0 ≤ hasIx ts t) (hl : ts.length ≤ 100000) : txtV ts ⟨refB ts t ++ D, false⟩ = t ∧ txtR ts ⟨refB ts t ++ D, false⟩ = ⟨D, false⟩ := by
  obtain ⟨i, hi, he, hg⟩ := has_at h
  obtain ⟨h1, h2⟩ := num_app i D (by omega)
  have e : refB ts t = vput i := by unfold refB; rw [he, Int.toNat_natCast]
  unfold txtV txtR
  rw [e, h1, h2, if_pos (by omega), if_pos (by omega), Int.toNat_natCast, hg]
  exact ⟨rfl, rfl⟩
theorem rdS_app (L : List ByteArray) : ∀ (f : Nat) (D : List Int) (ts : List ByteArray), L.length ≤ f → (∀ t ∈ L, textFault t.data.toList = 0) → rdS f L.length ⟨L.flatMap strB ++ D, false⟩ ts = (⟨D, false⟩, ts ++ L) := by
  induction L with
  | nil =>
    intro f D ts _ _
    rw [rdS_stop (by simp)]
    simp
  | cons t L ih =>
    intro f D ts hf hg
    obtain ⟨f, rfl⟩ : ∃ g, f = g + 1 := ⟨f - 1, by simp at hf; omega⟩
    obtain ⟨h1, h2, h3⟩ := sreadApp t (L.flatMap strB ++ D) (hg t (by simp))
    have hp := strB_pos t
    rw [List.flatMap_cons, List.append_assoc]
    rw [rdS_go ⟨by rw [List.length_cons]; omega, rfl⟩ (by simp only [h3]; omega)]
    simp only [h2, h3, Int.toNat_natCast, List.drop_left]
    rw [show ((t :: L).length : Int) - 1 = (L.length : Int) by simp]
    rw [ih f D _ (by simp at hf; omega) (fun x hx => hg x (by simp [hx]))]
    simp
theorem rdA_app (ts : List ByteArray) (hl : ts.length ≤ 100000) (l : List At) : ∀ (f : Nat) (D : List Int) (es : List At), l.length ≤ f → (∀ a ∈ l, 0 ≤ hasIx ts a.name ∧ 0 ≤ hasIx ts a.value) → rdA ts f l.length ⟨l.flatMap (attB ts) ++ D, false⟩ es = (⟨D, false⟩, es ++ l) := by
  induction l with
  | nil =>
    intro f D es _ _
    rw [rdA_stop (by simp)]
    simp
  | cons a l ih =>
    intro f D es hf hg
    obtain ⟨f, rfl⟩ : ∃ g, f = g + 1 := ⟨f - 1, by simp at hf; omega⟩
    obtain ⟨g1, g2⟩ := hg a (by simp)
    obtain ⟨h1, h2⟩ := txt_app ts a.name (refB ts a.value ++ (l.flatMap (attB ts) ++ D)) g1 hl
    obtain ⟨h3, h4⟩ := txt_app ts a.value (l.flatMap (attB ts) ++ D) g2 hl
    have e : (a :: l).flatMap (attB ts) ++ D = refB ts a.name ++ (refB ts a.value ++ (l.flatMap (attB ts) ++ D)) := by rw [List.flatMap_cons]; simp [attB]
    rw [e, rdA_go ⟨by rw [List.length_cons]; omega, rfl⟩, h1, h2, h3, h4]
    rw [show ((a :: l).length : Int) - 1 = (l.length : Int) by simp]
    rw [ih f D _ (by simp at hf; omega) (fun x hx => hg x (by simp [hx]))]
    simp
theorem attsB_ge (ts : List ByteArray) (l : List At) : l.length ≤ (l.flatMap (attB ts)).length := by
  induction l with
  | nil => simp
  | cons a t ih =>
    have h1 := refB_pos ts a.name
    have h2 : (attB ts a).length = (refB ts a.name).length + (refB ts a.value).length := by unfold attB; rw [List.length_append]
    rw [List.flatMap_cons, List.length_append, List.length_cons]
    omega
theorem no_bytes {s : ByteArray} (h : s.toList.isEmpty = true) : s = ByteArray.empty := by
  refine same_text.1 ?_
  rw [List.isEmpty_iff.1 h, ByteArray.toList_eq]
  rfl
/-- an item without a fault, in its normal form -/
theorem good_text {x : It} (h : itemCode x = 0) (he : x.name.toList.isEmpty = true) : x = ⟨x.depth, x.text, ByteArray.empty, ByteArray.empty, []⟩ := by
  have hd := item_depth h
  unfold itemCode at h
  rw [if_neg (by omega), if_pos he] at h
  unfold textCode at h
  split at h
  · omega
  · rename_i hn
    have h1 : x.space.toList.isEmpty = true := by
      cases hh : x.space.toList.isEmpty
      · exact absurd (.inl hh) hn
      · rfl
    refine It.eq rfl rfl (no_bytes h1) (no_bytes he) ?_
    have h2 : ¬ 0 < x.attrs.length := fun hh => hn (.inr (.inl hh))
    exact List.length_eq_zero_iff.1 (by omega)
theorem good_elem {x : It} (h : itemCode x = 0) (he : x.name.toList.isEmpty = false) : x = ⟨x.depth, ByteArray.empty, x.space, x.name, x.attrs⟩ ∧ x.attrs.length ≤ 5 := by
  refine ⟨?_, (goodIt h).few⟩
  have hd := item_depth h
  unfold itemCode at h
  rw [if_neg (by omega), if_neg (by rw [he]; decide)] at h
  unfold elemCode at h
  split at h
  · omega
  · rename_i hn
    have h1 : x.text.toList.isEmpty = true := by
      cases hh : x.text.toList.isEmpty
      · exact absurd hh hn
      · rfl
    exact It.eq rfl (no_bytes h1) rfl rfl rfl
theorem it_app (ts : List ByteArray) (hl : ts.length ≤ 100000) (x : It) (D : List Int) (h : itemCode x = 0) (hh : HasIt ts x) : itV ts ⟨itB ts x ++ D, false⟩ = x ∧ itR ts ⟨itB ts x ++ D, false⟩ = ⟨D, false⟩ := by
  have hd := item_depth h
  have hdn : ((x.depth.toNat : Nat) : Int) = x.depth := by omega
  cases he : x.name.toList.isEmpty
  · obtain ⟨hx, hf⟩ := good_elem h he
    obtain ⟨g1, g2, g3⟩ := hasIt_elem he hh
    have e : itB ts x ++ D = vput x.depth.toNat ++ (vput 1 ++ (refB ts x.space ++ (refB ts x.name ++ (vput x.attrs.length ++ (x.attrs.flatMap (attB ts) ++ D))))) := by
      rw [itB_elem he, show vput 1 = [1] by rw [vput_small (by omega)]; rfl]
      simp
    obtain ⟨n1, n2⟩ := num_app x.depth.toNat (vput 1 ++ (refB ts x.space ++ (refB ts x.name ++ (vput x.attrs.length ++ (x.attrs.flatMap (attB ts) ++ D))))) (by omega)
    obtain ⟨n3, n4⟩ := num_app 1 (refB ts x.space ++ (refB ts x.name ++ (vput x.attrs.length ++ (x.attrs.flatMap (attB ts) ++ D)))) (by omega)
    obtain ⟨t1, t2⟩ := txt_app ts x.space (refB ts x.name ++ (vput x.attrs.length ++ (x.attrs.flatMap (attB ts) ++ D))) g1 hl
    obtain ⟨t3, t4⟩ := txt_app ts x.name (vput x.attrs.length ++ (x.attrs.flatMap (attB ts) ++ D)) g2 hl
    obtain ⟨n5, n6⟩ := num_app x.attrs.length (x.attrs.flatMap (attB ts) ++ D) (by omega)
    have ha := rdA_app ts hl x.attrs ((itB ts x ++ D).length + 1) D [] (by
      have := attsB_ge ts x.attrs
      rw [e]
      simp only [List.length_append]
      omega) (fun a hm => by
      obtain ⟨i, hi, rfl⟩ := List.getElem_of_mem hm
      have := g3 i hi
      rwa [List.getD_eq_getElem?_getD, List.getElem?_eq_getElem hi] at this)
    rw [List.nil_append] at ha
    unfold itV itR
    simp only
    rw [show (⟨itB ts x ++ D, false⟩ : Rd) = ⟨vput x.depth.toNat ++ (vput 1 ++ (refB ts x.space ++ (refB ts x.name ++ (vput x.attrs.length ++ (x.attrs.flatMap (attB ts) ++ D))))), false⟩ by rw [e], n1, n2, n3, n4, t1, t2, t3, t4, n5, n6, ha, hdn]
    rw [if_neg (by omega), if_neg (by omega), if_neg (by simp [he])]
    exact ⟨hx.symm, rfl⟩
  · have hx := good_text h he
    have g1 := hasIt_text he hh
    have e : itB ts x ++ D = vput x.depth.toNat ++ (vput 0 ++ (refB ts x.text ++ D)) := by
      rw [itB_text he, show vput 0 = [0] by rw [vput_small (by omega)]; rfl]
      simp
    obtain ⟨n1, n2⟩ := num_app x.depth.toNat (vput 0 ++ (refB ts x.text ++ D)) (by omega)
    obtain ⟨n3, n4⟩ := num_app 0 (refB ts x.text ++ D) (by omega)
    obtain ⟨t1, t2⟩ := txt_app ts x.text D g1 hl
    unfold itV itR
    simp only
    rw [show (⟨itB ts x ++ D, false⟩ : Rd) = ⟨vput x.depth.toNat ++ (vput 0 ++ (refB ts x.text ++ D)), false⟩ by rw [e], n1, n2, n3, n4, t1, t2, hdn]
    rw [if_pos (by rfl), if_pos (by rfl)]
    exact ⟨hx.symm, rfl⟩
theorem rdI_app (ts : List ByteArray) (hl : ts.length ≤ 100000) (l : List It) : ∀ (f : Nat) (D : List Int) (es : List It), l.length ≤ f → (∀ x ∈ l, itemCode x = 0 ∧ HasIt ts x) → rdI ts f l.length ⟨l.flatMap (itB ts) ++ D, false⟩ es = (⟨D, false⟩, es ++ l) := by
  induction l with
  | nil =>
    intro f D es _ _
    rw [rdI_stop (by simp)]
    simp
  | cons x l ih =>
    intro f D es hf hg
    obtain ⟨f, rfl⟩ : ∃ g, f = g + 1 := ⟨f - 1, by simp at hf; omega⟩
    obtain ⟨g1, g2⟩ := hg x (by simp)
    obtain ⟨h1, h2⟩ := it_app ts hl x (l.flatMap (itB ts) ++ D) g1 g2
    rw [List.flatMap_cons, List.append_assoc, rdI_go ⟨by rw [List.length_cons]; omega, rfl⟩, h1, h2]
    rw [show ((x :: l).length : Int) - 1 = (l.length : Int) by simp]
    rw [ih f D _ (by simp at hf; omega) (fun x hx => hg x (by simp [hx]))]
    simp
theorem strsB_ge (l : List ByteArray) : l.length ≤ (l.flatMap strB).length := by
  induction l with
  | nil => simp
  | cons a t ih =>
    have h1 := strB_pos a
    rw [List.flatMap_cons, List.length_append, List.length_cons]
    omega
theorem itB_pos (ts : List ByteArray) (x : It) : 0 < (itB ts x).length := by
  have := vput_pos x.depth.toNat
  unfold itB
  rw [List.length_append]
  omega
theorem itsB_ge (ts : List ByteArray) (l : List It) : l.length ≤ (l.flatMap (itB ts)).length := by
  induction l with
  | nil => simp
  | cons a t ih =>
    have h1 := itB_pos ts a
    rw [List.flatMap_cons, List.length_append, List.length_cons]
    omega
theorem treeIts {l : List It} (h : treeCode l = 0) : ∀ x ∈ l, itemCode x = 0 := by
  intro x hx
  unfold treeCode at h
  split at h
  · omega
  · cases hf : l.find? (fun x => itemCode x != 0) with
    | none => simpa using find_none_at hf hx
    | some y =>
      rw [hf] at h
      have := List.find?_some hf
      rw [bne_iff_ne] at this
      exact absurd h this
theorem lang_fault : textFault [120, 109, 108, 58, 108, 97, 110, 103] = 0 := by decide +kernel
theorem key_fault {s : ByteArray} (h : isKeyL s = true) : textFault s.data.toList = 0 := by
  unfold isKeyL at h
  rw [Bool.or_eq_true] at h
  rcases h with h | h
  · rw [Bool.and_eq_true] at h
    exact name_text _ h.1
  · rw [beq_iff_eq, ByteArray.toList_eq] at h
    rw [h]
    exact lang_fault
/-- no text of an item without a fault has a fault -/
theorem it_faults {x : It} (h : itemCode x = 0) : ∀ s ∈ itTs x, textFault s.data.toList = 0 := by
  intro s hs
  have hd := item_depth h
  unfold itemCode at h
  rw [if_neg (by omega)] at h
  unfold itTs at hs
  split at h
  · rename_i he
    rw [if_pos he] at hs
    unfold textCode at h
    split at h
    · omega
    · simp only [List.mem_cons, List.not_mem_nil, or_false] at hs
      subst hs
      exact h
  · rename_i he
    rw [if_neg he] at hs
    unfold elemCode at h
    split at h
    · omega
    · split at h
      · omega
      · rename_i h2
        split at h
        · rename_i h3
          obtain ⟨hl, ha⟩ := goodAts h
          simp only [List.mem_cons] at hs
          rcases hs with rfl | rfl | hs
          · exact h3
          · exact name_text _ (by simpa using h2)
          · obtain ⟨a, ha1, ha2⟩ := List.mem_flatMap.1 hs
            have h5 := ha a ha1
            unfold atFault at h5
            split at h5
            · rename_i hk
              unfold atTs at ha2
              simp only [List.mem_cons, List.not_mem_nil, or_false] at ha2
              rcases ha2 with rfl | rfl
              · exact key_fault hk
              · exact h5
            · omega
        · rename_i h3
          exact absurd h h3
theorem tree_faults {l : List It} (h : treeCode l = 0) : ∀ s ∈ strsOf l, textFault s.data.toList = 0 := by
  intro s hs
  rw [mem_strsOf] at hs
  obtain ⟨x, hx, hs⟩ := List.mem_flatMap.1 hs
  exact it_faults (treeIts h x hx) s hs
theorem tree_has {l : List It} : ∀ x ∈ l, HasIt (strsOf l) x := by
  intro x hx
  obtain ⟨i, hi, rfl⟩ := List.getElem_of_mem hx
  have := hasIt_of l i hi
  rwa [List.getD_eq_getElem?_getD, List.getElem?_eq_getElem hi] at this
/-- the frame of a tree is read as it was -/
theorem un_pack {l : List It} (h : treeCode l = 0) : unI (packL l) = (⟨[], false⟩, l) := by
  obtain ⟨h40, hg⟩ := goodTree h
  have hc := goodCount h40 hg
  have e : packL l = vput (strsOf l).length ++ ((strsOf l).flatMap strB ++ (vput l.length ++ (l.flatMap (itB (strsOf l)) ++ []))) := by unfold packL; simp
  obtain ⟨n1, n2⟩ := num_app (strsOf l).length ((strsOf l).flatMap strB ++ (vput l.length ++ (l.flatMap (itB (strsOf l)) ++ []))) (by omega)
  obtain ⟨n3, n4⟩ := num_app l.length (l.flatMap (itB (strsOf l)) ++ []) (by omega)
  have k1 : (strsOf l).length ≤ (packL l).length + 1 := by
    have := strsB_ge (strsOf l)
    rw [e]
    simp only [List.length_append]
    omega
  have k2 : l.length ≤ (packL l).length + 1 := by
    have := itsB_ge (strsOf l) l
    rw [e]
    simp only [List.length_append]
    omega
  have hS : unS (packL l) = (⟨vput l.length ++ (l.flatMap (itB (strsOf l)) ++ []), false⟩, strsOf l) := by
    unfold unS
    rw [show (⟨packL l, false⟩ : Rd) = ⟨vput (strsOf l).length ++ ((strsOf l).flatMap strB ++ (vput l.length ++ (l.flatMap (itB (strsOf l)) ++ []))), false⟩ by rw [e], n1, n2]
    rw [rdS_app (strsOf l) _ _ [] k1 (tree_faults h)]
    simp
  unfold unI
  rw [hS]
  simp only
  rw [n3, n4, rdI_app (strsOf l) (by omega) l _ [] [] k2 (fun x hx => ⟨treeIts h x hx, tree_has x hx⟩)]
  simp
theorem un_ok {l : List It} (h : treeCode l = 0) : unOk (packL l) := by
  unfold unOk
  rw [un_pack h]
  exact ⟨rfl, h, rfl⟩
end Go.Proofs.YtbfjhjkllaceaaaGreatDoor
