/- spec.DrawPresenceOf. -/
import Derived.Test.YtjkmgpomcnplnaaGreatDoorGS19
import Derived.Test.YtjkmgpomcnplnaaGreatDoorGS12
import Derived.Test.YtjkmgpomcnplnaaGreatDoorGS8
namespace Go.Proofs.YtjkmgpomcnplnaaGreatDoor
open Go.ChangeShapes Go.WideShapes Go.ChangeAt Go.RowKit
set_option linter.unusedVariables false
set_option linter.unusedSimpArgs false
set_option maxRecDepth 100000 in
set_option maxHeartbeats 3000000 in
theorem drawPresenceOf_any (a : Option Addr) (n c : Nat) (xs : List Int) (w : World) (h : CodeAt w a n c xs) :
    Calls Tryz.prog 7 #[.slice a n c] w (TopMore w) := by
  have HC := Lib.hid h
  obtain ⟨i0, hi0, hz0, hi1, hz2⟩ := info_parts itemInfo
  obtain ⟨j0, hj, hjz0, hj1, hjz2⟩ := info_parts attrInfo
  clear h
  unfold TopMore
  go_enter Tryz.func7, Tryz.ntmps7
  go_wp2_with fail
  refine (source_any HC.out).mono ?_
  rintro e w1 ⟨rfl, hs, hb⟩
  have HB := Lib.hid hb
  have KD := l7DrawT_any w.heap.size a n c xs 0 (by decide) w1 hs
  unfold PrDrawnT at KD
  have hz1 := hs.lt
  clear hs hb
  go_wp2_with fail
  refine KD.mono ?_
  clear KD
  rintro e w2 ⟨⟨yk, yf, yt, ys, yu, yp, l⟩, x, m, q, A, N, C, k1, rfl, hG, hm, hPD, hk1, hs2, hg, hTm⟩
  dsimp only at hG
  have HB2 := Lib.hid (below_step HB.out hg (Nat.le_refl _))
  have b2 := below1 w2 (.cells #[.int .i64 yk, .string yf, .string yt, .int .i64 ys, .string yu, .int .i64 yp, .slice (some x) m q] 26)
  have S3 := Lib.hid (hs2.below b2)
  have hl8 : l.length ≤ 8 := by have := hG.len; omega
  have KP := specTreeG_any w2.heap.size ⟨yk, yf, yt, ys, yu, yp, l⟩ (some x) m q w1.heap.size w2.heap.size (w2.alloc (.cells #[.int .i64 yk, .string yf, .string yt, .int .i64 ys, .string yu, .int .i64 yp, .slice (some x) m q] 26)) (PrAt.new w2 26 ⟨yk, yf, yt, ys, yu, yp, l⟩ (some x) m q) (tame_mild hPD hTm hl8) hPD.small ((hPD.own hG).below b2)
  unfold GrewIts at KP
  obtain ⟨hM1, hM2, hM3⟩ := tree_mids hPD hTm hl8
  have hsz2 : (w2.alloc (.cells #[.int .i64 yk, .string yf, .string yt, .int .i64 ys, .string yu, .int .i64 yp, .slice (some x) m q] 26)).heap.size = w2.heap.size + 1 := by simp
  have hzz2 : w1.heap.size ≤ w2.heap.size := hg.size
  have hra : ((treeL ⟨yk, yf, yt, ys, yu, yp, l⟩).getD 0 dIt).attrs.length ≤ 9 := tree_root _
  generalize treeL ⟨yk, yf, yt, ys, yu, yp, l⟩ = L at *
  have HRA := Lib.hid hra
  clear hra
  have HM := Lib.hid hM1
  have HL15 := Lib.hid hM2
  have HL1 := Lib.hid hM3
  have HBA := Lib.hid (below_then HB2.out b2)
  clear hs2 hg hG hPD b2 hTm hM1 hM2 hM3 hl8
  go_wp2_with fail
  refine KP.mono ?_
  clear KP
  rintro e w3 ⟨B, a3, n3, c3, A3, N3, C3, rfl, hB3, hG3, hR3, hO3, hb3⟩
  rw [hsz2] at hB3
  have S4 := Lib.hid (S3.out.below hb3)
  have HB4 := Lib.hid (below_then HBA.out hb3)
  have hlL : L.length = n3 := hG3.len
  have hz3 : w2.heap.size + 1 ≤ w3.heap.size := by have := hb3.size; simpa using this
  have hn15 : n3 ≤ 15 := by have := HL15.out; omega
  have hn1 : 1 ≤ n3 := by have := HL1.out; omega
  obtain ⟨g3, cap, cur, hv, hbg, _⟩ := hG3.row.2.resolve_left (by omega)
  simp only [Value.slice.injEq] at hv
  obtain ⟨rfl, _, rfl⟩ := hv
  have G4 := Lib.hid hG3
  have R4 := Lib.hid hR3
  have KN := Lib.hid (fun (k : Nat) (m : Int) (hm0 : 1 ≤ m) (hm : m ≤ 1000000000) (hk : k < 1000000) (W : World) (h : Src W w.heap.size a n c xs k) => l1Next_any w.heap.size a n c xs k m hm0 hm hk W h)
  unfold NextRes at KN
  clear hG3 hR3 hO3 hb3 S3 HBA hsz2 HL15 HL1 HC HB HB2
  go_wp2_with fail
  refine (KN.out k1 7 (by decide) (by decide) (by omega) _ S4.out).mono ?_
  rintro e w6 ⟨t, rfl, ht, hs, hg⟩
  have G6 := Lib.hid (G4.out.onlyP (Only.grown hg) (fun i h1 _ h2 => by simp only [Option.some.injEq] at h2; omega))
  have R6 := Lib.hid (R4.out.only (Only.grown hg) (fun i h1 _ h2 => by simp only [Option.some.injEq] at h2; omega))
  have S6 := Lib.hid hs
  have BB := below_step HB4.out hg (Nat.le_refl _)
  have HB6 := Lib.hid BB
  have hzw : w.heap.size < w6.heap.size := by have := hs.lt; omega
  have hz6 : w2.heap.size + 1 ≤ w6.heap.size := by have := hg.size; omega
  clear hs hg G4 R4 S4 HB4 BB
  have htn : (0 : Int) ≤ (t : Int) := by omega
  generalize (t : Int) = tt at htn ⊢
  have hmz := HM.out.2 0
  obtain ⟨⟨zd, zt, zs, zn, za⟩, hz⟩ : ∃ z, L.getD 0 dIt = z := ⟨_, rfl⟩
  rw [hz] at hmz
  have HMZ := Lib.hid hmz
  have hgl : g3 < w6.heap.size := (G6.out.row.lt g3 rfl).2
  have hgB : B ≤ g3 := (G6.out.row.lt g3 rfl).1
  have hBz : B ≤ w6.heap.size := by omega
  have HZ3 : Hid (za.length ≤ 9) := Lib.hid (by have := HRA.out; rw [hz] at this; exact this)
  clear ht hmz
  by_cases t0 : tt = 0
  · subst t0
    have KB := l4BentO_any w.heap.size a n c xs (k1 + 1) (by omega) _ S6.out
    unfold BentOwn at KB
    go_wp2_with fail
    refine KB.mono ?_
    clear KB
    rintro e w7 ⟨x5, m5, q5, l5, rfl, ho, hbn, hg⟩
    have HO := Lib.hid ho
    have HBN := Lib.hid hbn
    have BB := below_step HB6.out hg (Nat.le_refl _)
    clear ho hbn hg
    go_wp2
    go_ret
    exact ⟨_, _, _, _, rfl, HO.out.mono (by omega) (Nat.le_refl _), HBN.out.small, BB⟩
  by_cases t1 : tt = 1
  · subst t1
    have b7 := below1 w6 (.cells #[.string ⟨#[115, 104, 111, 119]⟩, .string ⟨#[115, 116, 97, 116, 117, 115]⟩, .string ⟨#[112, 114, 105, 111, 114, 105, 116, 121]⟩, .string ⟨#[120]⟩] 9)
    have b8 := below1 (w6.alloc (.cells #[.string ⟨#[115, 104, 111, 119]⟩, .string ⟨#[115, 116, 97, 116, 117, 115]⟩, .string ⟨#[112, 114, 105, 111, 114, 105, 116, 121]⟩, .string ⟨#[120]⟩] 9)) (.cells #[.string ⟨#[97, 119, 97, 121]⟩, .string ⟨#[53]⟩, .string ⟨#[]⟩, .string ⟨#[120, 120]⟩, .string ⟨#[45, 48]⟩, .string ⟨#[50, 48, 48]⟩] 9)
    have b78 := below_then b7 b8
    obtain ⟨f, hf0, hfs⟩ : ∃ f, WAt (w6.alloc (.cells #[.string ⟨#[115, 104, 111, 119]⟩, .string ⟨#[115, 116, 97, 116, 117, 115]⟩, .string ⟨#[112, 114, 105, 111, 114, 105, 116, 121]⟩, .string ⟨#[120]⟩] 9)) w6.heap.size 4 f ∧ ∀ r, r < 4 → (f r).size ≤ 60 := wat_new w6 #[.string ⟨#[115, 104, 111, 119]⟩, .string ⟨#[115, 116, 97, 116, 117, 115]⟩, .string ⟨#[112, 114, 105, 111, 114, 105, 116, 121]⟩, .string ⟨#[120]⟩] 9 60 4 (by decide +kernel)
    obtain ⟨f2, hf2, hfs2⟩ : ∃ f, WAt ((w6.alloc (.cells #[.string ⟨#[115, 104, 111, 119]⟩, .string ⟨#[115, 116, 97, 116, 117, 115]⟩, .string ⟨#[112, 114, 105, 111, 114, 105, 116, 121]⟩, .string ⟨#[120]⟩] 9)).alloc (.cells #[.string ⟨#[97, 119, 97, 121]⟩, .string ⟨#[53]⟩, .string ⟨#[]⟩, .string ⟨#[120, 120]⟩, .string ⟨#[45, 48]⟩, .string ⟨#[50, 48, 48]⟩] 9)) (w6.heap.size + 1) 6 f ∧ ∀ r, r < 6 → (f r).size ≤ 60 := by
      have := wat_new (w6.alloc (.cells #[.string ⟨#[115, 104, 111, 119]⟩, .string ⟨#[115, 116, 97, 116, 117, 115]⟩, .string ⟨#[112, 114, 105, 111, 114, 105, 116, 121]⟩, .string ⟨#[120]⟩] 9)) #[.string ⟨#[97, 119, 97, 121]⟩, .string ⟨#[53]⟩, .string ⟨#[]⟩, .string ⟨#[120, 120]⟩, .string ⟨#[45, 48]⟩, .string ⟨#[50, 48, 48]⟩] 9 60 6 (by decide +kernel)
      rw [World.size_alloc] at this
      exact this
    have F1 := Lib.hid (wAtB hf0 b8)
    have F2 := Lib.hid hf2
    have HFS := Lib.hid hfs
    have HFS2 := Lib.hid hfs2
    have G8 := Lib.hid (G6.out.below b78)
    have S8 := Lib.hid (S6.out.below b78)
    have B8 := Lib.hid (below_then HB6.out b78)
    have hz8 : ((w6.alloc (.cells #[.string ⟨#[115, 104, 111, 119]⟩, .string ⟨#[115, 116, 97, 116, 117, 115]⟩, .string ⟨#[112, 114, 105, 111, 114, 105, 116, 121]⟩, .string ⟨#[120]⟩] 9)).alloc (.cells #[.string ⟨#[97, 119, 97, 121]⟩, .string ⟨#[53]⟩, .string ⟨#[]⟩, .string ⟨#[120, 120]⟩, .string ⟨#[45, 48]⟩, .string ⟨#[50, 48, 48]⟩] 9)).heap.size = w6.heap.size + 2 := by simp
    clear hf0 hf2 hfs hfs2 b7 b8 b78 G6 R6 S6 HB6 HMZ
    go_upto_region 10 with fail
    (try simp only [World.size_alloc])
    generalize ((w6.alloc (.cells #[.string ⟨#[115, 104, 111, 119]⟩, .string ⟨#[115, 116, 97, 116, 117, 115]⟩, .string ⟨#[112, 114, 105, 111, 114, 105, 116, 121]⟩, .string ⟨#[120]⟩] 9)).alloc (.cells #[.string ⟨#[97, 119, 97, 121]⟩, .string ⟨#[53]⟩, .string ⟨#[]⟩, .string ⟨#[120, 120]⟩, .string ⟨#[45, 48]⟩, .string ⟨#[50, 48, 48]⟩] 9)) = w8 at *
    have hb6 : w.heap.size ≠ w6.heap.size := by omega
    have hb7 : w.heap.size ≠ w6.heap.size + 1 := by omega
    generalize w6.heap.size = nb at F1 F2 hb6 hb7 hz8 hgl ⊢
    have F1 := Lib.hid (wAtB F1.out ((Below.refl w8.heap.size w8).drew))
    have F2 := Lib.hid (wAtB F2.out ((Below.refl w8.heap.size w8).drew))
    have S0 : (∀ r, r < 4 → w8.drew.cell? ⟨nb, r, none⟩ = some (.string (f r))) ∧ (∀ r, r < 6 → w8.drew.cell? ⟨nb + 1, r, none⟩ = some (.string (f2 r))) := ⟨F1.out, F2.out⟩
    have S9 := Lib.hid (S8.out.below ((Below.refl w8.heap.size w8).drew))
    have G9 := Lib.hid (G8.out.below ((Below.refl w8.heap.size w8).drew))
    have B9 := Lib.hid (below_then B8.out ((Below.refl w8.heap.size w8).drew))
    refine wp_region_noPanic ?_
    refine wp_region_held_drew (S := (fun W => (∀ r, r < 4 → W.cell? ⟨nb, r, none⟩ = some (.string (f r))) ∧ (∀ r, r < 6 → W.cell? ⟨nb + 1, r, none⟩ = some (.string (f2 r))))) (by kernel_rfl) ?_ (fun hHeld => ?_)
    · exact S0
    refine wpAnyH_take (i := 0) (oi := _) (v := ?_) rfl (by kernel_rfl) (by kernel_rfl) (by kernel_rfl) (fun _ _ _ h => h) (Or.inl ⟨by rfl, ?_⟩) (by with_reducible assumption) ?_
    rotate_left
    · intro Wz hSw
      clear hSw
      go_simp
      all_goals (with_reducible rfl)
    try simp only [Act.put, List.getElem_toArray, List.getElem_cons_zero, List.getElem_cons_succ, List.setIfInBounds_toArray, List.set_cons_zero, List.set_cons_succ]
    refine wpAnyH_take (i := 1) (oi := _) (v := ?_) rfl (by kernel_rfl) (by kernel_rfl) (by kernel_rfl) (fun _ _ _ h => h) (Or.inl ⟨by rfl, ?_⟩) (by with_reducible assumption) ?_
    rotate_left
    · intro Wz hSw
      clear hSw
      go_simp
      all_goals (with_reducible rfl)
    try simp only [Act.put, List.getElem_toArray, List.getElem_cons_zero, List.getElem_cons_succ, List.setIfInBounds_toArray, List.set_cons_zero, List.set_cons_succ]
    refine wpAnyH_take (i := 2) (oi := _) (v := ?_) rfl (by kernel_rfl) (by kernel_rfl) (by kernel_rfl) (fun _ _ _ h => h) (Or.inl ⟨by rfl, ?_⟩) (by with_reducible assumption) ?_
    rotate_left
    · intro Wz hSw
      clear hSw
      go_simp
      all_goals (with_reducible rfl)
    try simp only [Act.put, List.getElem_toArray, List.getElem_cons_zero, List.getElem_cons_succ, List.setIfInBounds_toArray, List.set_cons_zero, List.set_cons_succ]
    refine wpAnyH_take (i := 6) (oi := _) (v := ?_) rfl (by kernel_rfl) (by kernel_rfl) (by kernel_rfl) (fun _ _ _ h => h) (Or.inl ⟨by rfl, ?_⟩) (by with_reducible assumption) ?_
    rotate_left
    · intro Wz hSw
      clear hSw
      go_simp
      all_goals (with_reducible rfl)
    try simp only [Act.put, List.getElem_toArray, List.getElem_cons_zero, List.getElem_cons_succ, List.setIfInBounds_toArray, List.set_cons_zero, List.set_cons_succ]
    refine wpAnyH_take (i := 7) (oi := _) (v := ?_) rfl (by kernel_rfl) (by kernel_rfl) (by kernel_rfl) (fun _ _ _ h => h) (Or.inl ⟨by rfl, ?_⟩) (by with_reducible assumption) ?_
    rotate_left
    · intro Wz hSw
      clear hSw
      go_simp
      all_goals (with_reducible rfl)
    try simp only [Act.put, List.getElem_toArray, List.getElem_cons_zero, List.getElem_cons_succ, List.setIfInBounds_toArray, List.set_cons_zero, List.set_cons_succ]
    refine wpAnyH_ready (rs := [3]) (by kernel_rfl) (by simp) ?_
    refine AllReadyH.cons (o := _) rfl (fun K hK => ?_) AllReadyH.nil
    go_simp
    refine (KN.out (k1 + 1) 4 (by decide) (by decide) (by omega) _ S9.out).mono ?_
    rintro e w10 ⟨r1, rfl, hr1, hs, hg⟩
    have hr1 : r1 < 4 := by have := hr1 (by decide); omega
    have S10 := Lib.hid hs
    have G10 := Lib.hid (G9.out.onlyP (Only.grown hg) (fun i h1 _ h2 => by simp only [Option.some.injEq] at h2; omega))
    have B10 := Lib.hid (below_step B9.out hg (Nat.le_refl _))
    have FA10 := Lib.hid (wAtG F1.out hg (by intro e; injection e with e; omega))
    have FB10 := Lib.hid (wAtG F2.out hg (by intro e; injection e with e; omega))
    clear hs hg
    go_wp2_with fail
    refine hK.out _ _ ?_ (fun hHeld => ?_)
    · exact ⟨FA10.out, FB10.out⟩
    clear hK K
    try simp only [Act.put, List.getElem_toArray, List.getElem_cons_zero, List.getElem_cons_succ, List.setIfInBounds_toArray, List.set_cons_zero, List.set_cons_succ]
    refine wpAnyH_take (i := 4) (oi := _) (v := ?_) rfl (by kernel_rfl) (by kernel_rfl) (by kernel_rfl) (fun _ _ _ h => h) (Or.inl ⟨by rfl, ?_⟩) (by with_reducible assumption) ?_
    rotate_left
    · intro Wz hSw
      clear hSw
      go_simp
      all_goals (with_reducible rfl)
    try simp only [Act.put, List.getElem_toArray, List.getElem_cons_zero, List.getElem_cons_succ, List.setIfInBounds_toArray, List.set_cons_zero, List.set_cons_succ]
    refine wpAnyH_take (i := 5) (oi := _) (v := ?_) rfl (by kernel_rfl) (by kernel_rfl) (by kernel_rfl) (fun _ _ _ h => h) (Or.inl ⟨by rfl, ?_⟩) (by with_reducible assumption) ?_
    rotate_left
    · intro Wz hSw
      have hw := hSw.1 r1 hr1
      clear hSw
      go_simp
      all_goals (with_reducible rfl)
    try simp only [Act.put, List.getElem_toArray, List.getElem_cons_zero, List.getElem_cons_succ, List.setIfInBounds_toArray, List.set_cons_zero, List.set_cons_succ]
    refine wpAnyH_ready (rs := [8]) (by kernel_rfl) (by simp) ?_
    refine AllReadyH.cons (o := _) rfl (fun K hK => ?_) AllReadyH.nil
    go_simp
    refine (KN.out (k1 + 1 + 1) 6 (by decide) (by decide) (by omega) _ S10.out).mono ?_
    rintro e w11 ⟨r2, rfl, hr2, hs, hg⟩
    have hr2 : r2 < 6 := by have := hr2 (by decide); omega
    have S11 := Lib.hid hs
    have G11 := Lib.hid (G10.out.onlyP (Only.grown hg) (fun i h1 _ h2 => by simp only [Option.some.injEq] at h2; omega))
    have B11 := Lib.hid (below_step B10.out hg (Nat.le_refl _))
    have FA11 := Lib.hid (wAtG FA10.out hg (by intro e; injection e with e; omega))
    have FB11 := Lib.hid (wAtG FB10.out hg (by intro e; injection e with e; omega))
    clear hs hg
    go_wp2_with fail
    refine hK.out _ _ ?_ (fun hHeld => ?_)
    · exact ⟨FA11.out, FB11.out⟩
    clear hK K
    try simp only [Act.put, List.getElem_toArray, List.getElem_cons_zero, List.getElem_cons_succ, List.setIfInBounds_toArray, List.set_cons_zero, List.set_cons_succ]
    refine wpAnyH_take (i := 9) (oi := _) (v := ?_) rfl (by kernel_rfl) (by kernel_rfl) (by kernel_rfl) (fun _ _ _ h => h) (Or.inl ⟨by rfl, ?_⟩) (by with_reducible assumption) ?_
    rotate_left
    · intro Wz hSw
      clear hSw
      go_simp
      all_goals (with_reducible rfl)
    try simp only [Act.put, List.getElem_toArray, List.getElem_cons_zero, List.getElem_cons_succ, List.setIfInBounds_toArray, List.set_cons_zero, List.set_cons_succ]
    refine wpAnyH_take (i := 10) (oi := _) (v := ?_) rfl (by kernel_rfl) (by kernel_rfl) (by kernel_rfl) (fun _ _ _ h => h) (Or.inl ⟨by rfl, ?_⟩) (by with_reducible assumption) ?_
    rotate_left
    · intro Wz hSw
      have hw := hSw.2 r2 hr2
      clear hSw
      go_simp
      all_goals (with_reducible rfl)
    try simp only [Act.put, List.getElem_toArray, List.getElem_cons_zero, List.getElem_cons_succ, List.setIfInBounds_toArray, List.set_cons_zero, List.set_cons_succ]
    have hs1 := HFS.out r1 hr1
    have hs2 := HFS2.out r2 hr2
    refine wpAnyH_ready (rs := [11]) (by kernel_rfl) (by simp) ?_
    refine AllReadyH.cons (o := _) rfl (fun K hK => ?_) AllReadyH.nil
    go_simp
    have KL := l7Leaf_any B _ n3 c3 L A3 N3 C3 1 ⟨#[106, 97, 98, 98, 101, 114, 58, 99, 108, 105, 101, 110, 116]⟩ (f r1) (f2 r2) w11 (by have := G11.out.row.lt g3 rfl; omega) (by omega) (by decide) G11.out
    unfold GrownRes at KL
    refine KL.mono ?_
    clear KL
    rintro e w12 ⟨a7, n7, c7, A7, N7, C7, rfl, hG7, hg7, hv7⟩
    have G7 := Lib.hid hG7
    have M7 := Lib.hid (mids_leaf HM.out 1 ⟨#[106, 97, 98, 98, 101, 114, 58, 99, 108, 105, 101, 110, 116]⟩ (f r1) (f2 r2) (by decide) (by decide) (by omega) (by omega) (by omega))
    have BB := B11.out.grown hg7 B11.out.size (fun k e => by have := G11.out.row.lt k e; omega)
    have HBB := Lib.hid BB
    clear hG7 hv7 BB
    go_wp2_with fail
    refine hK.out _ _ ?_ (fun hHeld => ?_)
    · exact ⟨wAtG FA11.out hg7 (fun e => by simp [Value.ownBlock] at e; omega), wAtG FB11.out hg7 (fun e => by simp [Value.ownBlock] at e; omega)⟩
    clear hK K hg7
    try simp only [Act.put, List.getElem_toArray, List.getElem_cons_zero, List.getElem_cons_succ, List.setIfInBounds_toArray, List.set_cons_zero, List.set_cons_succ]
    refine wpAnyH_take (i := 12) (oi := _) (v := ?_) rfl (by kernel_rfl) (by kernel_rfl) (by kernel_rfl) (fun _ _ _ h => h) (Or.inl ⟨by rfl, ?_⟩) (by with_reducible assumption) ?_
    rotate_left
    · intro Wz hSw
      clear hSw
      go_simp
      all_goals (with_reducible rfl)
    try simp only [Act.put, List.getElem_toArray, List.getElem_cons_zero, List.getElem_cons_succ, List.setIfInBounds_toArray, List.set_cons_zero, List.set_cons_succ]
    refine wpAnyH_done (by kernel_rfl) ?_ _
    refine NoPanic.normal ?_
    have BB := HBB.out
    go_wp2
    go_ret
    exact ⟨_, _, _, _, rfl, (M7.out.own G7.out).mono (by omega) (Nat.le_refl _), M7.out.small, BB⟩
  by_cases t2 : tt = 2
  · subst t2
    have p4 := G6.out.cellAt 0 4 (by omega) (by decide)
    simp only [show ¬ ((4 : Nat) = 0) by decide, show ¬ ((4 : Nat) = 1) by decide, show ¬ ((4 : Nat) = 2) by decide, show ¬ ((4 : Nat) = 3) by decide, if_false, Nat.zero_mul, Nat.zero_add] at p4
    have f4 := G6.out.row.frozenAt 4
    have RW := Lib.hid R6.out.row
    rw [hz] at RW
    dsimp only at RW
    have hNr : za.length = N3 0 := by have := (G6.out.ats 0 (by omega)).1.ats.len; rw [hz] at this; exact this
    have hfew := HMZ.out.few
    dsimp only at hfew
    have hfew3 : za.length ≤ 9 := HZ3.out
    go_wp2_with (at_builtin; refine wpList_append_own_at _ rfl _ _ 49 rfl B 52 j0 (.agg #[.string ByteArray.empty, .string ByteArray.empty]) 2 32 Tryz.underlying49 hj hjz0 hj1 hjz2 rfl (by decide) _ (N3 0) _ rfl (owns_below RW.out (below1 _ _)) ⟨w6.heap.size, 0, none⟩ 1 1 [.string ⟨#[122, 122]⟩, .string ⟨#[49]⟩] rfl rfl ?c1 ?c2 ?c3 ?c4 ?c5 ?_)
    case c1 => exact attCells w6 _ _
    case c2 => intro v hv; simp at hv; rcases hv with rfl | rfl <;> rfl
    case c3 => unfold maxLen; omega
    case c4 => omega
    case c5 => simp; omega
    intro v' w7 hown' hgr4 _ hat
    obtain ⟨a8, c8, rfl⟩ := owns_slice hown'
    have hown8 : w7.ownsRow B 52 2 (.slice a8 (N3 0 + 1) c8) (N3 0 + 1) (flatA (za ++ [⟨⟨#[122, 122]⟩, ⟨#[49]⟩⟩])) := by rw [flatA_snoc]; exact hown'
    have RT := root_attrs (es := za ++ [(⟨⟨#[122, 122]⟩, ⟨#[49]⟩⟩ : At)]) G6.out R6.out (by omega) (below1 w6 (.cells #[.string ⟨#[122, 122]⟩, .string ⟨#[49]⟩] 52)) hgr4 (fun j e => e) hown8 (fun j e => by
      rcases hat with e2 | e2
      · rw [e2] at e
        intro e3
        subst e3
        exact R6.out.off j e rfl
      · rw [e2] at e
        simp at e
        omega) (by omega) (atts_snoc200 HMZ.out.short (by decide) (by decide)) (hat.imp id fun e => ⟨_, e, by simp⟩)
    rw [hz] at RT
    dsimp only at RT
    have G7 := Lib.hid RT.1
    have M7 := Lib.hid (mids_set HM.out (r := 0) (y := ⟨zd, zt, zs, zn, za ++ [⟨⟨#[122, 122]⟩, ⟨#[49]⟩⟩]⟩) ⟨HMZ.out.depth, HMZ.out.sizes, by show (za ++ [_]).length ≤ 10; rw [List.length_append]; show za.length + 1 ≤ 10; omega, atts_snoc200 HMZ.out.short (by decide) (by decide)⟩)
    have BB := ((below_then HB6.out (below1 w6 (.cells #[.string ⟨#[122, 122]⟩, .string ⟨#[49]⟩] 52))).grown hgr4 (below_then HB6.out (below1 w6 (.cells #[.string ⟨#[122, 122]⟩, .string ⟨#[49]⟩] 52))).size (fun k e => by have := R6.out.row.lt k e; omega)).setCell (p := ⟨g3, 4, none⟩) (by show w.heap.size ≤ g3; omega) (.slice a8 (N3 0 + 1) c8)
    have hcell : w7.cell? ⟨g3, 4, none⟩ = some (.slice (A3 0) (N3 0) (C3 0)) := hgr4.cell (((below1 w6 _).cell (by exact hgl)).trans p4) (fun e => R6.out.off g3 e.symm rfl)
    have hfr : w7.frozen? ⟨g3, 4, none⟩ = false := ((Only.grown hgr4).frozen (p := ⟨g3, 4, none⟩) (by simp; omega) (fun e => R6.out.off g3 e.symm rfl)).trans (((below1 w6 _).frozen (by exact hgl)).trans f4)
    clear RT hown8 hat hown' hgr4
    go_wp2
    go_ret
    exact ⟨_, _, _, _, rfl, (M7.out.own G7.out).mono (by omega) (Nat.le_refl _), M7.out.small, BB⟩
  by_cases t3 : tt = 3
  · subst t3
    go_wp2_with (at_builtin; refine wpList_append_own_at _ rfl _ _ 24 rfl B 54 i0 (.agg #[.int .i64 0, .string ByteArray.empty, .string ByteArray.empty, .string ByteArray.empty, .slice none 0 0]) 5 80 Tryz.underlying24 hi0 hz0 hi1 hz2 rfl (by decide) _ n3 _ rfl (G6.out.row.alloc _) ⟨w6.heap.size, 0, none⟩ 1 1 [.int .i64 1, .string ⟨#[32]⟩, .string ⟨#[]⟩, .string ⟨#[]⟩, .slice none 0 0] rfl rfl ?c1 ?c2 ?c3 ?c4 ?c5 ?_)
    case c1 => exact fun j u hj => itemCells w6 _ _ _ _ _ j u hj
    case c2 => intro v hv; simp at hv; rcases hv with rfl | rfl | rfl | rfl | rfl <;> rfl
    case c3 => unfold maxLen; omega
    case c4 => omega
    case c5 => simp; omega
    intro v' w7 hown hgr _ hat
    obtain ⟨a7, c7, rfl⟩ := owns_slice hown
    have G7 := Lib.hid (G6.out.snoc (x := ⟨1, ⟨#[32]⟩, ⟨#[]⟩, ⟨#[]⟩, []⟩) (below1 w6 (.cells #[.int .i64 1, .string ⟨#[32]⟩, .string ⟨#[]⟩, .string ⟨#[]⟩, .slice none 0 0] 54)) (bareAts _ _ _) (fun _ => rfl) hBz hown hgr (hat.imp id fun e => ⟨w6.heap.size + 1, by simpa using e, by simp⟩))
    have M7 := Lib.hid (mids_snoc (x := ⟨1, ⟨#[32]⟩, ⟨#[]⟩, ⟨#[]⟩, []⟩) HM.out ⟨⟨by decide, by decide⟩, ⟨by decide, by decide, by decide⟩, by decide, fun i => by simp [dAt]⟩ (by omega))
    have BB := (below_then HB6.out (below1 w6 (.cells #[.int .i64 1, .string ⟨#[32]⟩, .string ⟨#[]⟩, .string ⟨#[]⟩, .slice none 0 0] 54))).grown hgr (below_then HB6.out (below1 w6 (.cells #[.int .i64 1, .string ⟨#[32]⟩, .string ⟨#[]⟩, .string ⟨#[]⟩, .slice none 0 0] 54))).size (fun k e => by have := G6.out.row.lt k e; omega)
    clear hown hgr hat
    go_wp2
    go_ret
    exact ⟨_, _, _, _, rfl, (M7.out.own G7.out).mono (by omega) (Nat.le_refl _), M7.out.small, BB⟩
  by_cases t4 : tt = 4
  · subst t4
    have p40 := G6.out.cellAt 0 4 (by omega) (by decide)
    simp only [show ¬ ((4 : Nat) = 0) by decide, show ¬ ((4 : Nat) = 1) by decide, show ¬ ((4 : Nat) = 2) by decide, show ¬ ((4 : Nat) = 3) by decide, if_false, Nat.zero_mul, Nat.zero_add] at p40
    have p4 := ((below1 w6 (.cells #[.string ⟨#[116, 121, 112, 101]⟩, .string ⟨#[97, 119, 97, 121]⟩] 52)).cell (p := ⟨g3, 4, none⟩) (by exact hgl)).trans p40
    have f4 := ((below1 w6 (.cells #[.string ⟨#[116, 121, 112, 101]⟩, .string ⟨#[97, 119, 97, 121]⟩] 52)).frozen (p := ⟨g3, 4, none⟩) (by exact hgl)).trans (G6.out.row.frozenAt 4)
    have hown := World.ownsRow_lit (base := B) (e := 52) (size := 2) w6 #[.string ⟨#[116, 121, 112, 101]⟩, .string ⟨#[97, 119, 97, 121]⟩] 1 hBz (by unfold maxLen; omega) rfl
    have RT := root_attrs (es := [⟨⟨#[116, 121, 112, 101]⟩, ⟨#[97, 119, 97, 121]⟩⟩]) (row := none) G6.out R6.out (by omega) (below1 w6 (.cells #[.string ⟨#[116, 121, 112, 101]⟩, .string ⟨#[97, 119, 97, 121]⟩] 52)) (World.grownBy.refl _ _) (fun j e => by cases e) hown (fun j e => by simp only [Value.ownBlock, Option.some.injEq] at e; omega) (by decide) (atts_snoc200 (es := []) (fun i => by simp [dAt]) (by decide) (by decide)) (.inr ⟨_, rfl, Nat.le_refl _⟩)
    rw [hz] at RT
    dsimp only at RT
    have G7 := Lib.hid RT.1
    have M7 := Lib.hid (mids_set HM.out (r := 0) (y := ⟨zd, zt, zs, zn, [⟨⟨#[116, 121, 112, 101]⟩, ⟨#[97, 119, 97, 121]⟩⟩]⟩) ⟨HMZ.out.depth, HMZ.out.sizes, by show (1 : Nat) ≤ 10; omega, atts_snoc200 (es := []) (fun i => by simp [dAt]) (by decide) (by decide)⟩)
    have BB := (below_then HB6.out (below1 w6 (.cells #[.string ⟨#[116, 121, 112, 101]⟩, .string ⟨#[97, 119, 97, 121]⟩] 52))).setCell (p := ⟨g3, 4, none⟩) (by show w.heap.size ≤ g3; omega) (.slice (some ⟨w6.heap.size, 0, none⟩) 1 1)
    have ew := World.setCell_alloc_past (w := w6) (.cells #[.string ⟨#[116, 121, 112, 101]⟩, .string ⟨#[97, 119, 97, 121]⟩] 52) g3 4 (.slice (some ⟨w6.heap.size, 0, none⟩) 1 1) hgl
    clear RT hown
    go_wp2
    go_ret
    first | exact ⟨_, _, _, _, rfl, (M7.out.own G7.out).mono (by omega) (Nat.le_refl _), M7.out.small, BB⟩ | (rw [← ew]; exact ⟨_, _, _, _, rfl, (M7.out.own G7.out).mono (by omega) (Nat.le_refl _), M7.out.small, BB⟩)
  have BB := HB6.out
  go_wp2
  go_ret
  exact ⟨_, _, _, _, rfl, (HM.out.own G6.out).mono (by omega) (Nat.le_refl _), HM.out.small, BB⟩
end Go.Proofs.YtjkmgpomcnplnaaGreatDoor
