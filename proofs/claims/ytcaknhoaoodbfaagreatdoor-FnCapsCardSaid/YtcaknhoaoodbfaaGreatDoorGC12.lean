/- The laws' draw of a disco. -/
import Derived.Test.YtcaknhoaoodbfaaGreatDoorGC11
import Derived.Deep.DeepCutAuto
namespace Go.Proofs.YtcaknhoaoodbfaaGreatDoor
open Go.ChangeShapes Go.WideShapes Go.ChangeAt Go.RowKit
set_option linter.unusedVariables false
set_option linter.unusedSimpArgs false

theorem idNew (W : World) (s t u v : ByteArray) (j : Nat) (x : Value) (hj : [Value.string s, Value.string t, Value.string u, Value.string v][j]? = some x) : (W.alloc (.cells #[.string s, .string t, .string u, .string v] 54)).cell? (Addr.add ⟨W.heap.size, 0, none⟩ j) = some x := by
  match j, hj with
  | 0, hj => simp at hj; subst hj; simp [Addr.add]
  | 1, hj => simp at hj; subst hj; simp [Addr.add]
  | 2, hj => simp at hj; subst hj; simp [Addr.add]
  | 3, hj => simp at hj; subst hj; simp [Addr.add]
theorem oneAt {W : World} {ob : Nat} {s : ByteArray} (h : W.cell? ⟨ob, 0, none⟩ = some (.string s)) (j : Nat) (x : Value) (hj : [Value.string s][j]? = some x) : W.cell? (Addr.add ⟨ob, 0, none⟩ j) = some x := by
  match j, hj with
  | 0, hj => simp at hj; subst hj; simpa [Addr.add] using h
theorem DSt.new {w : World} {b : Nat} {a : Option Addr} {n c : Nat} {xs : List Int} {k : Nat} (h : Src w b a n c xs k) (T : TypeId) :
    DSt w ((w.alloc (.cells #[.slice none 0 0, .slice none 0 0] T)).alloc (.cells #[.slice none 0 0, .slice none 0 0] T)) b a n c xs k none 0 0 [] none 0 0 [] := by
  have hlt := h.lt
  have hb := below2 w (.cells #[.slice none 0 0, .slice none 0 0] T) (.cells #[.slice none 0 0, .slice none 0 0] T)
  have X := X2.new (w.alloc (.cells #[.slice none 0 0, .slice none 0 0] T)) T (.slice none 0 0) (.slice none 0 0)
  rw [World.size_alloc] at X
  exact ⟨hlt, by simp, (X2.new w T _ _).grown (World.grownBy_alloc _ _ none) (by simp), X, World.ownsRow_nil _ _ _ _, World.ownsRow_nil _ _ _ _, h.below hb, grown_of_below hb _, rfl, rfl, fun i => by simpa using sm60_d, fun i => by simp⟩

set_option maxRecDepth 100000 in
set_option maxHeartbeats 12800000 in
theorem l9Draw_any (b : Nat) (a : Option Addr) (n c : Nat) (xs : List Int) (k : Nat) (hk : k + 200 < 1000000) (w : World) (h : Src w b a n c xs k) :
    Calls Tryz.prog 91 #[.pointer (some ⟨b, 0, none⟩)] w (DisDrawn w b a n c xs k) := by
  obtain ⟨i0, hi, hz0, hz1, hz2⟩ := info_parts identInfo
  obtain ⟨j0, hj, hjz0, hjz1, hjz2⟩ := info_parts strInfoD
  have hblt := h.lt
  have KN4 := Lib.hid (fun (k : Nat) (hk : k < 1000000) (W : World) (h : Src W b a n c xs k) => l1Next_any b a n c xs k 4 (by decide) (by decide) hk W h)
  have KN5 := Lib.hid (fun (k : Nat) (hk : k < 1000000) (W : World) (h : Src W b a n c xs k) => l1Next_any b a n c xs k 5 (by decide) (by decide) hk W h)
  have KN6 := Lib.hid (fun (k : Nat) (hk : k < 1000000) (W : World) (h : Src W b a n c xs k) => l1Next_any b a n c xs k 6 (by decide) (by decide) hk W h)
  have KN16 := Lib.hid (fun (k : Nat) (hk : k < 1000000) (W : World) (h : Src W b a n c xs k) => l1Next_any b a n c xs k 16 (by decide) (by decide) hk W h)
  unfold NextRes at KN4 KN5 KN6 KN16
  have KI := Lib.hid (fun (k : Nat) (hk : k + 20 < 1000000) (W : World) (h : Src W b a n c xs k) => l9DrawIdentity_any b a n c xs k hk W h)
  unfold IdDrawn at KI
  have D0 := Lib.hid (DSt.new h 50)
  clear h
  go_enter Tryz.func91, Tryz.ntmps91
  go_wp2_with fail
  refine (KN4.out k (by omega) _ D0.out.src).mono ?_
  rintro e w1 ⟨r1, rfl, hr1, hs1, hg1⟩
  have hr1 := hr1 (by decide)
  have D1 := Lib.hid (D0.out.call hs1 hg1)
  clear hs1 hg1 D0
  go_wp2
  go_loopw [4] (fun v wr => ∃ (m k' : Nat) (a1 : Option Addr) (n1 c1 : Nat) (l : List Ident), v = .int .i64 m ∧ m + n1 ≤ 3 ∧ k' ≤ k + 1 + 7 * n1 ∧ Hid (DSt w wr b a n c xs k' a1 n1 c1 l none 0 0 [])) (fun v _ => (intOf v).toNat)
  case atStart => exact ⟨r1, k + 1, none, 0, 0, [], rfl, by omega, by omega, D1⟩
  case round =>
    obtain ⟨m, k', a1, n1, c1, l, rfl, hm, hk', DD⟩ := hrel
    clear D1 hr1
    rcases m with _ | m
    case succ =>
      have q1 : (0 : Int) < ((m + 1 : Nat) : Int) := by omega
      go_wp2_with fail
      refine (KI.out k' (by omega) _ DD.out.src).mono ?_
      rintro e w5 ⟨⟨xa, xb, xc, xd⟩, k5, rfl, hx1, hx2, hx3, hx4, hk5, hs5, hg5⟩
      dsimp only at hx1 hx2 hx3 hx4
      have D5 := DD.out.call hs5 hg5
      have D6 := Lib.hid (D5.below (below1 w5 (.cells #[.string xa, .string xb, .string xc, .string ⟨#[80, 115, 105, 32, 48, 46, 49, 49]⟩] 54)))
      have XW := X4.new w5 54 (.string xa) (.string xb) (.string xc) (.string ⟨#[80, 115, 105, 32, 48, 46, 49, 49]⟩)
      have x0 := XW.c0
      have x1 := XW.c1
      have x2 := XW.c2
      have x3 := XW.c3
      clear hs5 hg5 D5 DD XW
      go_upto_region 7 with fail
      generalize w5.alloc (.cells #[.string xa, .string xb, .string xc, .string ⟨#[80, 115, 105, 32, 48, 46, 49, 49]⟩] 54) = w6 at D6 x0 x1 x2 x3 ⊢
      have y0 := D6.out.box.c0
      go_wp2_with (at_builtin; refine wpList_append_own _ rfl _ _ 47 rfl (w.heap.size + 2) 54 i0 _ 4 64 Tryz.underlying47 hi hz0 hz1 hz2 rfl (by decide) _ n1 _ rfl (D6.out.o1.alloc _) ⟨w6.heap.size, 0, none⟩ 1 1 [.string xa, .string xb, .string xc, .string ⟨#[80, 115, 105, 32, 48, 46, 49, 49]⟩] rfl rfl (idNew w6 _ _ _ _) (by simp [Value.oneCell']) (by unfold maxLen; omega) (by omega) (by have := D6.out.hz; simp; omega) ?_)
      intro v' w7 hown hgrow _
      obtain ⟨a', c', rfl⟩ := owns_slice hown
      have DL := D6.out.below (below1 w6 (.cells #[.string xa, .string xb, .string xc, .string ⟨#[80, 115, 105, 32, 48, 46, 49, 49]⟩] 54))
      have q7 := (DL.own hgrow (fun g e => (DL.o1.lt g e).1)).2.1
      have y7 := q7.c0
      have f7 := q7.fz 0 (by decide)
      have D7 := Lib.hid (DL.setI hgrow (l' := l ++ [⟨xa, xb, xc, ⟨#[80, 115, 105, 32, 48, 46, 49, 49]⟩⟩]) (by rw [idFlat_snoc]; exact hown) (by rw [List.length_append, DL.l1]; rfl) (getD_snoc _ _ _ Sm60 DL.s1 ⟨hx1, hx2, hx3, (by show (8 : Nat) ≤ 60; decide)⟩))
      clear hown hgrow DL q7 y0
      clear x0 x1 x2 x3
      go_wp2
      go_roundw
      case rel => exact ⟨m, k5, a', n1 + 1, c', _, by go_num, by omega, by omega, D7⟩
      case measure => simp [intOf]
    case zero =>
      obtain ⟨wo, hwo⟩ : ∃ wo, wo = wr := ⟨_, rfl⟩
      subst hwo
      obtain ⟨f, hf0, hfs⟩ : ∃ f, WAt (wo.alloc (.cells #[.string ⟨#[117, 114, 110, 58, 120]⟩, .string ⟨#[104, 116, 116, 112, 58, 47, 47, 106, 97, 98, 98, 101, 114, 46, 111, 114, 103, 47, 112, 114, 111, 116, 111, 99, 111, 108, 47, 109, 117, 99]⟩, .string ⟨#[97]⟩, .string ⟨#[97, 98]⟩, .string ⟨#[97, 97]⟩, .string ⟨#[122, 122]⟩] 9)) wo.heap.size 6 f ∧ ∀ r, r < 6 → (f r).size ≤ 60 := wat_new wo _ _ 60 6 (by decide +kernel)
      have hnb : some wo.heap.size ≠ some b := by have h1 := DD.out.hz; have h2 := DD.out.hb; intro e; injection e; omega
      have hnx : wo.heap.size ≠ w.heap.size + 1 := by have := DD.out.hz; omega
      have DA := Lib.hid (DD.out.below (below1 wo (.cells #[.string ⟨#[117, 114, 110, 58, 120]⟩, .string ⟨#[104, 116, 116, 112, 58, 47, 47, 106, 97, 98, 98, 101, 114, 46, 111, 114, 103, 47, 112, 114, 111, 116, 111, 99, 111, 108, 47, 109, 117, 99]⟩, .string ⟨#[97]⟩, .string ⟨#[97, 98]⟩, .string ⟨#[97, 97]⟩, .string ⟨#[122, 122]⟩] 9)))
      have q1 : ¬ ((0 : Int) < ((0 : Nat) : Int)) := by omega
      go_wp2_with fail
      refine (KN5.out k' (by omega) _ DA.out.src).mono ?_
      rintro e w2 ⟨r2, rfl, hr2, hs2, hg2⟩
      have hr2 := hr2 (by decide)
      have D2 := Lib.hid (DA.out.call hs2 hg2)
      have HF2 := Lib.hid (wAtG hf0 hg2 hnb)
      clear hs2 hg2 hf0 DA DD
      generalize wo.heap.size = nb at HF2 hnb hnx ⊢
      go_wp2
      go_loopw [7] (fun v wr => ∃ (m k2 : Nat) (a2 : Option Addr) (n2 c2 : Nat) (ts : List ByteArray), v = .int .i64 m ∧ m + n2 ≤ 4 ∧ k2 ≤ k + 23 + n2 ∧ (∀ g, (Value.slice a2 n2 c2).ownBlock = some g → g ≠ nb) ∧ Hid (DSt w wr b a n c xs k2 a1 n1 c1 l a2 n2 c2 ts) ∧ Hid (WAt wr nb 6 f)) (fun v _ => (intOf v).toNat)
      case atStart => exact ⟨r2, k' + 1, none, 0, 0, [], rfl, by omega, by omega, fun g e => by simp [Value.ownBlock] at e, D2, HF2⟩
      case round =>
        obtain ⟨m, k2, a2, n2, c2, ts, rfl, hm2, hk2, hap, DD, HF0⟩ := hrel
        clear D2 HF2 hr2
        rcases m with _ | m
        case succ =>
          have q1 : (0 : Int) < ((m + 1 : Nat) : Int) := by omega
          have DX := Lib.hid (DD.out.below (Below.refl wr.heap.size wr).drew)
          have HFX : Hid (WAt wr.drew nb 6 f) := Lib.hid HF0.out
          clear DD HF0
          have DD := DX
          have HF0 := HFX
          clear DX HFX
          go_wp2_with fail
          refine wp_region_noPanic ?_
          refine wp_region_held_drew (S := (fun W => ∀ r, r < 6 → W.cell? ⟨nb, r, none⟩ = some (.string (f r)))) (by kernel_rfl) ?_ (fun hHeld => ?_)
          · exact HF0.out
          generalize wr.drew = V0 at *
          refine wpAnyH_take (i := 0) (oi := _) (v := ?_) rfl (by kernel_rfl) (by kernel_rfl) (by kernel_rfl) (fun _ _ _ h => h) (Or.inl ⟨by rfl, ?_⟩) (by with_reducible assumption) ?_
          rotate_left
          · intro Wz hSw
            clear hSw
            go_simp
            all_goals (with_reducible rfl)
          try simp only [Act.put, List.getElem_toArray, List.getElem_cons_zero, List.getElem_cons_succ, List.setIfInBounds_toArray, List.set_cons_zero, List.set_cons_succ]
          refine wpAnyH_take (i := 2) (oi := _) (v := ?_) rfl (by kernel_rfl) (by kernel_rfl) (by kernel_rfl) (fun _ _ _ h => h) (Or.inl ⟨by rfl, ?_⟩) (by with_reducible assumption) ?_
          rotate_left
          · intro Wz hSw
            clear hSw
            go_simp
            all_goals (with_reducible rfl)
          try simp only [Act.put, List.getElem_toArray, List.getElem_cons_zero, List.getElem_cons_succ, List.setIfInBounds_toArray, List.set_cons_zero, List.set_cons_succ]
          refine wpAnyH_take (i := 3) (oi := _) (v := ?_) rfl (by kernel_rfl) (by kernel_rfl) (by kernel_rfl) (fun _ _ _ h => h) (Or.inl ⟨by rfl, ?_⟩) (by with_reducible assumption) ?_
          rotate_left
          · intro Wz hSw
            clear hSw
            go_simp
            all_goals (with_reducible rfl)
          try simp only [Act.put, List.getElem_toArray, List.getElem_cons_zero, List.getElem_cons_succ, List.setIfInBounds_toArray, List.set_cons_zero, List.set_cons_succ]
          have HF := HF0
          clear HF0
          refine wpAnyH_ready (rs := [1, 4]) (by kernel_rfl) (by simp) ?_
          refine AllReadyH.cons (o := _) rfl (fun K hK => ?_) (AllReadyH.cons (o := _) rfl (fun K hK => ?_) AllReadyH.nil)
          · have y1 := DD.out.box.c1
            go_simp
            refine hK.out _ _ ?_ (fun hHeld => ?_)
            · exact (by with_reducible assumption)
            clear hK K
            try simp only [Act.put, List.getElem_toArray, List.getElem_cons_zero, List.getElem_cons_succ, List.setIfInBounds_toArray, List.set_cons_zero, List.set_cons_succ]
            clear y1
            refine wpAnyH_ready (rs := [4]) (by kernel_rfl) (by simp) ?_
            refine AllReadyH.cons (o := _) rfl (fun K hK => ?_) AllReadyH.nil
            go_simp
            refine (KN6.out _ (by omega) _ DD.out.src).mono ?_
            rintro e V5 ⟨r5, rfl, hr5, hs5, hg5⟩
            have hr5 := hr5 (by decide)
            have hr5n : r5 < 6 := by omega
            have D5 := Lib.hid (DD.out.call hs5 hg5)
            have HF5 := Lib.hid (wAtG HF.out hg5 hnb)
            clear HF
            have HF := HF5
            clear HF5
            clear hs5 hg5 DD
            have DD := D5
            clear D5
            go_wp2_with fail
            refine hK.out _ _ ?_ (fun hHeld => ?_)
            · exact HF.out
            clear hK K
            try simp only [Act.put, List.getElem_toArray, List.getElem_cons_zero, List.getElem_cons_succ, List.setIfInBounds_toArray, List.set_cons_zero, List.set_cons_succ]
            refine wpAnyH_take (i := 5) (oi := _) (v := ?_) rfl (by kernel_rfl) (by kernel_rfl) (by kernel_rfl) (fun _ _ _ h => h) (Or.inl ⟨by rfl, ?_⟩) (by with_reducible assumption) ?_
            rotate_left
            · intro Wz hSw
              clear hSw
              go_simp
              all_goals (with_reducible rfl)
            try simp only [Act.put, List.getElem_toArray, List.getElem_cons_zero, List.getElem_cons_succ, List.setIfInBounds_toArray, List.set_cons_zero, List.set_cons_succ]
            refine wpAnyH_take (i := 6) (oi := _) (v := ?_) rfl (by kernel_rfl) (by kernel_rfl) (by kernel_rfl) (fun _ _ _ h => h) (Or.inl ⟨by rfl, ?_⟩) (by with_reducible assumption) ?_
            rotate_left
            · intro Wz hSw
              have hw := hSw r5 hr5n
              clear hSw
              go_simp
              all_goals (with_reducible rfl)
            try simp only [Act.put, List.getElem_toArray, List.getElem_cons_zero, List.getElem_cons_succ, List.setIfInBounds_toArray, List.set_cons_zero, List.set_cons_succ]
            refine wpAnyH_ready (rs := [7]) (by kernel_rfl) (by simp) ?_
            refine AllReadyH.cons (o := _) rfl (fun K hK => ?_) AllReadyH.nil
            have DX := Lib.hid (DD.out.below (below1 V5 (.cells #[.string (f r5)] 9)))
            have HFX := Lib.hid (wAtA HF.out (.cells #[.string (f r5)] 9))
            go_simp
            refine hK.out _ _ ?_ (fun hHeld => ?_)
            · exact HFX.out
            clear hK K
            try simp only [Act.put, List.getElem_toArray, List.getElem_cons_zero, List.getElem_cons_succ, List.setIfInBounds_toArray, List.set_cons_zero, List.set_cons_succ]
            clear HF DD
            have HF := HFX
            have DD := DX
            clear HFX DX
            have hone : (V5.alloc (.cells #[.string (f r5)] 9)).cell? ⟨V5.heap.size, 0, none⟩ = some (.string (f r5)) := by simp
            generalize hOB : V5.heap.size = ob at hone ⊢
            clear hOB
            generalize V5.alloc (.cells #[.string (f r5)] 9) = Vy at HF DD hone hHeld ⊢
            refine wpAnyH_ready (rs := [8]) (by kernel_rfl) (by simp) ?_
            refine AllReadyH.cons (o := _) rfl (fun K hK => ?_) AllReadyH.nil
            refine step_own_at (by rfl) _ _ 48 rfl 9 j0 (.string ByteArray.empty) 1 16 Tryz.underlying48 hj hjz0 hjz1 hjz2 rfl (by decide) (w.heap.size + 2) _ n2 _ (by rfl) DD.out.o2 ⟨ob, 0, none⟩ 1 1 [.string (f r5)] (by rfl) rfl (oneAt hone) (by simp [Value.oneCell']) (by unfold maxLen; omega) (by omega) (by have := DD.out.hz; omega) ?_
            intro v' w7 hown hgr hat
            obtain ⟨a8, c8, rfl⟩ := owns_slice hown
            have q7 := (DD.out.own hgr (fun g e => (DD.out.o2.lt g e).1)).2.1
            have y7 := q7.c1
            have f7 := q7.fz 1 (by decide)
            have HF7 := Lib.hid (wAtG HF.out hgr (fun e => hap _ e.symm rfl))
            have hfz := hfs r5 hr5n
            have D7 := Lib.hid (DD.out.setT (.inr rfl) hgr (ts' := ts ++ [f r5]) (by rw [List.map_append]; exact hown) (by rw [List.length_append, DD.out.l2]; rfl) (getD_snoc _ _ _ (fun s : ByteArray => s.size ≤ 60) DD.out.s2 hfz))
            have HF8 := Lib.hid (wAtS HF7.out hnx 1 (.slice a8 (n2 + 1) c8))
            have hap8 : ∀ g, (Value.slice a8 (n2 + 1) c8).ownBlock = some g → g ≠ nb := by
              intro g hg
              rcases hat with e | e
              · exact hap g (e ▸ hg)
              · rw [e] at hg
                have := World.block_lt_of_cell? _ _ (HF.out 0 (by decide))
                simp at hg this
                omega
            refine hK.out _ _ ?_ (fun hHeld => ?_)
            · exact HF7.out
            clear hK K
            try simp only [Act.put, List.getElem_toArray, List.getElem_cons_zero, List.getElem_cons_succ, List.setIfInBounds_toArray, List.set_cons_zero, List.set_cons_succ]
            refine wpAnyH_take (i := 9) (oi := _) (v := ?_) rfl (by kernel_rfl) (by kernel_rfl) (by kernel_rfl) (fun _ _ _ h => h) (Or.inl ⟨by rfl, ?_⟩) (by with_reducible assumption) ?_
            rotate_left
            · intro Wz hSw
              clear hSw
              go_simp
              all_goals (with_reducible rfl)
            try simp only [Act.put, List.getElem_toArray, List.getElem_cons_zero, List.getElem_cons_succ, List.setIfInBounds_toArray, List.set_cons_zero, List.set_cons_succ]
            refine wpAnyH_ready (rs := [10]) (by kernel_rfl) (by simp) ?_
            refine AllReadyH.cons (o := _) rfl (fun K hK => ?_) AllReadyH.nil
            go_simp
            refine hK.out _ _ ?_ (fun hHeld => ?_)
            · exact HF8.out
            clear hK K
            try simp only [Act.put, List.getElem_toArray, List.getElem_cons_zero, List.getElem_cons_succ, List.setIfInBounds_toArray, List.set_cons_zero, List.set_cons_succ]
            refine wpAnyH_done (by kernel_rfl) ?_ _
            refine NoPanic.normal ?_
            clear hown hgr hat q7 y7 f7 HF7 HF DD hone
            go_wp2
            go_roundw
            case rel => exact ⟨m, _, a8, n2 + 1, c8, ts ++ [f r5], by go_num, by omega, by omega, hap8, D7, HF8⟩
            case measure => simp [intOf]
          · go_simp
            refine (KN6.out _ (by omega) _ DD.out.src).mono ?_
            rintro e V5 ⟨r5, rfl, hr5, hs5, hg5⟩
            have hr5 := hr5 (by decide)
            have hr5n : r5 < 6 := by omega
            have D5 := Lib.hid (DD.out.call hs5 hg5)
            have HF5 := Lib.hid (wAtG HF.out hg5 hnb)
            clear HF
            have HF := HF5
            clear HF5
            clear hs5 hg5 DD
            have DD := D5
            clear D5
            go_wp2_with fail
            refine hK.out _ _ ?_ (fun hHeld => ?_)
            · exact HF.out
            clear hK K
            try simp only [Act.put, List.getElem_toArray, List.getElem_cons_zero, List.getElem_cons_succ, List.setIfInBounds_toArray, List.set_cons_zero, List.set_cons_succ]
            refine wpAnyH_take (i := 5) (oi := _) (v := ?_) rfl (by kernel_rfl) (by kernel_rfl) (by kernel_rfl) (fun _ _ _ h => h) (Or.inl ⟨by rfl, ?_⟩) (by with_reducible assumption) ?_
            rotate_left
            · intro Wz hSw
              clear hSw
              go_simp
              all_goals (with_reducible rfl)
            try simp only [Act.put, List.getElem_toArray, List.getElem_cons_zero, List.getElem_cons_succ, List.setIfInBounds_toArray, List.set_cons_zero, List.set_cons_succ]
            refine wpAnyH_take (i := 6) (oi := _) (v := ?_) rfl (by kernel_rfl) (by kernel_rfl) (by kernel_rfl) (fun _ _ _ h => h) (Or.inl ⟨by rfl, ?_⟩) (by with_reducible assumption) ?_
            rotate_left
            · intro Wz hSw
              have hw := hSw r5 hr5n
              clear hSw
              go_simp
              all_goals (with_reducible rfl)
            try simp only [Act.put, List.getElem_toArray, List.getElem_cons_zero, List.getElem_cons_succ, List.setIfInBounds_toArray, List.set_cons_zero, List.set_cons_succ]
            refine wpAnyH_ready (rs := [1, 7]) (by kernel_rfl) (by simp) ?_
            refine AllReadyH.cons (o := _) rfl (fun K hK => ?_) (AllReadyH.cons (o := _) rfl (fun K hK => ?_) AllReadyH.nil)
            · have y1 := DD.out.box.c1
              go_simp
              refine hK.out _ _ ?_ (fun hHeld => ?_)
              · exact (by with_reducible assumption)
              clear hK K
              try simp only [Act.put, List.getElem_toArray, List.getElem_cons_zero, List.getElem_cons_succ, List.setIfInBounds_toArray, List.set_cons_zero, List.set_cons_succ]
              clear y1
              refine wpAnyH_ready (rs := [7]) (by kernel_rfl) (by simp) ?_
              refine AllReadyH.cons (o := _) rfl (fun K hK => ?_) AllReadyH.nil
              have DX := Lib.hid (DD.out.below (below1 V5 (.cells #[.string (f r5)] 9)))
              have HFX := Lib.hid (wAtA HF.out (.cells #[.string (f r5)] 9))
              go_simp
              refine hK.out _ _ ?_ (fun hHeld => ?_)
              · exact HFX.out
              clear hK K
              try simp only [Act.put, List.getElem_toArray, List.getElem_cons_zero, List.getElem_cons_succ, List.setIfInBounds_toArray, List.set_cons_zero, List.set_cons_succ]
              clear HF DD
              have HF := HFX
              have DD := DX
              clear HFX DX
              have hone : (V5.alloc (.cells #[.string (f r5)] 9)).cell? ⟨V5.heap.size, 0, none⟩ = some (.string (f r5)) := by simp
              generalize hOB : V5.heap.size = ob at hone ⊢
              clear hOB
              generalize V5.alloc (.cells #[.string (f r5)] 9) = Vy at HF DD hone hHeld ⊢
              refine wpAnyH_ready (rs := [8]) (by kernel_rfl) (by simp) ?_
              refine AllReadyH.cons (o := _) rfl (fun K hK => ?_) AllReadyH.nil
              refine step_own_at (by rfl) _ _ 48 rfl 9 j0 (.string ByteArray.empty) 1 16 Tryz.underlying48 hj hjz0 hjz1 hjz2 rfl (by decide) (w.heap.size + 2) _ n2 _ (by rfl) DD.out.o2 ⟨ob, 0, none⟩ 1 1 [.string (f r5)] (by rfl) rfl (oneAt hone) (by simp [Value.oneCell']) (by unfold maxLen; omega) (by omega) (by have := DD.out.hz; omega) ?_
              intro v' w7 hown hgr hat
              obtain ⟨a8, c8, rfl⟩ := owns_slice hown
              have q7 := (DD.out.own hgr (fun g e => (DD.out.o2.lt g e).1)).2.1
              have y7 := q7.c1
              have f7 := q7.fz 1 (by decide)
              have HF7 := Lib.hid (wAtG HF.out hgr (fun e => hap _ e.symm rfl))
              have hfz := hfs r5 hr5n
              have D7 := Lib.hid (DD.out.setT (.inr rfl) hgr (ts' := ts ++ [f r5]) (by rw [List.map_append]; exact hown) (by rw [List.length_append, DD.out.l2]; rfl) (getD_snoc _ _ _ (fun s : ByteArray => s.size ≤ 60) DD.out.s2 hfz))
              have HF8 := Lib.hid (wAtS HF7.out hnx 1 (.slice a8 (n2 + 1) c8))
              have hap8 : ∀ g, (Value.slice a8 (n2 + 1) c8).ownBlock = some g → g ≠ nb := by
                intro g hg
                rcases hat with e | e
                · exact hap g (e ▸ hg)
                · rw [e] at hg
                  have := World.block_lt_of_cell? _ _ (HF.out 0 (by decide))
                  simp at hg this
                  omega
              refine hK.out _ _ ?_ (fun hHeld => ?_)
              · exact HF7.out
              clear hK K
              try simp only [Act.put, List.getElem_toArray, List.getElem_cons_zero, List.getElem_cons_succ, List.setIfInBounds_toArray, List.set_cons_zero, List.set_cons_succ]
              refine wpAnyH_take (i := 9) (oi := _) (v := ?_) rfl (by kernel_rfl) (by kernel_rfl) (by kernel_rfl) (fun _ _ _ h => h) (Or.inl ⟨by rfl, ?_⟩) (by with_reducible assumption) ?_
              rotate_left
              · intro Wz hSw
                clear hSw
                go_simp
                all_goals (with_reducible rfl)
              try simp only [Act.put, List.getElem_toArray, List.getElem_cons_zero, List.getElem_cons_succ, List.setIfInBounds_toArray, List.set_cons_zero, List.set_cons_succ]
              refine wpAnyH_ready (rs := [10]) (by kernel_rfl) (by simp) ?_
              refine AllReadyH.cons (o := _) rfl (fun K hK => ?_) AllReadyH.nil
              go_simp
              refine hK.out _ _ ?_ (fun hHeld => ?_)
              · exact HF8.out
              clear hK K
              try simp only [Act.put, List.getElem_toArray, List.getElem_cons_zero, List.getElem_cons_succ, List.setIfInBounds_toArray, List.set_cons_zero, List.set_cons_succ]
              refine wpAnyH_done (by kernel_rfl) ?_ _
              refine NoPanic.normal ?_
              clear hown hgr hat q7 y7 f7 HF7 HF DD hone
              go_wp2
              go_roundw
              case rel => exact ⟨m, _, a8, n2 + 1, c8, ts ++ [f r5], by go_num, by omega, by omega, hap8, D7, HF8⟩
              case measure => simp [intOf]
            · have DX := Lib.hid (DD.out.below (below1 V5 (.cells #[.string (f r5)] 9)))
              have HFX := Lib.hid (wAtA HF.out (.cells #[.string (f r5)] 9))
              go_simp
              refine hK.out _ _ ?_ (fun hHeld => ?_)
              · exact HFX.out
              clear hK K
              try simp only [Act.put, List.getElem_toArray, List.getElem_cons_zero, List.getElem_cons_succ, List.setIfInBounds_toArray, List.set_cons_zero, List.set_cons_succ]
              clear HF DD
              have HF := HFX
              have DD := DX
              clear HFX DX
              have hone : (V5.alloc (.cells #[.string (f r5)] 9)).cell? ⟨V5.heap.size, 0, none⟩ = some (.string (f r5)) := by simp
              generalize hOB : V5.heap.size = ob at hone ⊢
              clear hOB
              generalize V5.alloc (.cells #[.string (f r5)] 9) = Vy at HF DD hone hHeld ⊢
              refine wpAnyH_ready (rs := [1]) (by kernel_rfl) (by simp) ?_
              refine AllReadyH.cons (o := _) rfl (fun K hK => ?_) AllReadyH.nil
              have y1 := DD.out.box.c1
              go_simp
              refine hK.out _ _ ?_ (fun hHeld => ?_)
              · exact (by with_reducible assumption)
              clear hK K
              try simp only [Act.put, List.getElem_toArray, List.getElem_cons_zero, List.getElem_cons_succ, List.setIfInBounds_toArray, List.set_cons_zero, List.set_cons_succ]
              clear y1
              refine wpAnyH_ready (rs := [8]) (by kernel_rfl) (by simp) ?_
              refine AllReadyH.cons (o := _) rfl (fun K hK => ?_) AllReadyH.nil
              refine step_own_at (by rfl) _ _ 48 rfl 9 j0 (.string ByteArray.empty) 1 16 Tryz.underlying48 hj hjz0 hjz1 hjz2 rfl (by decide) (w.heap.size + 2) _ n2 _ (by rfl) DD.out.o2 ⟨ob, 0, none⟩ 1 1 [.string (f r5)] (by rfl) rfl (oneAt hone) (by simp [Value.oneCell']) (by unfold maxLen; omega) (by omega) (by have := DD.out.hz; omega) ?_
              intro v' w7 hown hgr hat
              obtain ⟨a8, c8, rfl⟩ := owns_slice hown
              have q7 := (DD.out.own hgr (fun g e => (DD.out.o2.lt g e).1)).2.1
              have y7 := q7.c1
              have f7 := q7.fz 1 (by decide)
              have HF7 := Lib.hid (wAtG HF.out hgr (fun e => hap _ e.symm rfl))
              have hfz := hfs r5 hr5n
              have D7 := Lib.hid (DD.out.setT (.inr rfl) hgr (ts' := ts ++ [f r5]) (by rw [List.map_append]; exact hown) (by rw [List.length_append, DD.out.l2]; rfl) (getD_snoc _ _ _ (fun s : ByteArray => s.size ≤ 60) DD.out.s2 hfz))
              have HF8 := Lib.hid (wAtS HF7.out hnx 1 (.slice a8 (n2 + 1) c8))
              have hap8 : ∀ g, (Value.slice a8 (n2 + 1) c8).ownBlock = some g → g ≠ nb := by
                intro g hg
                rcases hat with e | e
                · exact hap g (e ▸ hg)
                · rw [e] at hg
                  have := World.block_lt_of_cell? _ _ (HF.out 0 (by decide))
                  simp at hg this
                  omega
              refine hK.out _ _ ?_ (fun hHeld => ?_)
              · exact HF7.out
              clear hK K
              try simp only [Act.put, List.getElem_toArray, List.getElem_cons_zero, List.getElem_cons_succ, List.setIfInBounds_toArray, List.set_cons_zero, List.set_cons_succ]
              refine wpAnyH_take (i := 9) (oi := _) (v := ?_) rfl (by kernel_rfl) (by kernel_rfl) (by kernel_rfl) (fun _ _ _ h => h) (Or.inl ⟨by rfl, ?_⟩) (by with_reducible assumption) ?_
              rotate_left
              · intro Wz hSw
                clear hSw
                go_simp
                all_goals (with_reducible rfl)
              try simp only [Act.put, List.getElem_toArray, List.getElem_cons_zero, List.getElem_cons_succ, List.setIfInBounds_toArray, List.set_cons_zero, List.set_cons_succ]
              refine wpAnyH_ready (rs := [10]) (by kernel_rfl) (by simp) ?_
              refine AllReadyH.cons (o := _) rfl (fun K hK => ?_) AllReadyH.nil
              go_simp
              refine hK.out _ _ ?_ (fun hHeld => ?_)
              · exact HF8.out
              clear hK K
              try simp only [Act.put, List.getElem_toArray, List.getElem_cons_zero, List.getElem_cons_succ, List.setIfInBounds_toArray, List.set_cons_zero, List.set_cons_succ]
              refine wpAnyH_done (by kernel_rfl) ?_ _
              refine NoPanic.normal ?_
              clear hown hgr hat q7 y7 f7 HF7 HF DD hone
              go_wp2
              go_roundw
              case rel => exact ⟨m, _, a8, n2 + 1, c8, ts ++ [f r5], by go_num, by omega, by omega, hap8, D7, HF8⟩
              case measure => simp [intOf]
        case zero =>
          clear HF0 hap
          have q1 : ¬ ((0 : Int) < ((0 : Nat) : Int)) := by omega
          go_wp2_with fail
          refine (KN16.out k2 (by omega) _ DD.out.src).mono ?_
          rintro e w2 ⟨r3, rfl, hr3, hs3, hg3⟩
          have hr3 := hr3 (by decide)
          have D3 := Lib.hid (DD.out.call hs3 hg3)
          clear hs3 hg3 DD
          rcases r3 with _ | _ | _ | _ | r3
          · have DX := Lib.hid (D3.out.below (Below.refl w2.heap.size w2).drew)
            clear D3
            have DD := DX
            clear DX
            go_wp2_with fail
            refine wp_region_noPanic ?_
            refine wp_region_held_drew (S := (fun _ => True)) (by kernel_rfl) ?_ (fun hHeld => ?_)
            · exact trivial
            generalize w2.drew = V0 at *
            refine wpAnyH_take (i := 0) (oi := _) (v := ?_) rfl (by kernel_rfl) (by kernel_rfl) (by kernel_rfl) (fun _ _ _ h => h) (Or.inl ⟨by rfl, ?_⟩) (by with_reducible assumption) ?_
            rotate_left
            · intro Wz hSw
              clear hSw
              go_simp
              all_goals (with_reducible rfl)
            try simp only [Act.put, List.getElem_toArray, List.getElem_cons_zero, List.getElem_cons_succ, List.setIfInBounds_toArray, List.set_cons_zero, List.set_cons_succ]
            refine wpAnyH_take (i := 3) (oi := _) (v := ?_) rfl (by kernel_rfl) (by kernel_rfl) (by kernel_rfl) (fun _ _ _ h => h) (Or.inl ⟨by rfl, ?_⟩) (by with_reducible assumption) ?_
            rotate_left
            · intro Wz hSw
              clear hSw
              go_simp
              all_goals (with_reducible rfl)
            try simp only [Act.put, List.getElem_toArray, List.getElem_cons_zero, List.getElem_cons_succ, List.setIfInBounds_toArray, List.set_cons_zero, List.set_cons_succ]
            refine wpAnyH_ready (rs := [1, 2, 4]) (by kernel_rfl) (by simp) ?_
            refine AllReadyH.cons (o := _) rfl (fun K hK => ?_) (AllReadyH.cons (o := _) rfl (fun K hK => ?_) (AllReadyH.cons (o := _) rfl (fun K hK => ?_) AllReadyH.nil))
            · have y1 := DD.out.box.c1
              go_simp
              refine hK.out _ _ ?_ (fun hHeld => ?_)
              · exact (by with_reducible assumption)
              clear hK K
              try simp only [Act.put, List.getElem_toArray, List.getElem_cons_zero, List.getElem_cons_succ, List.setIfInBounds_toArray, List.set_cons_zero, List.set_cons_succ]
              clear y1
              refine wpAnyH_ready (rs := [2, 4]) (by kernel_rfl) (by simp) ?_
              refine AllReadyH.cons (o := _) rfl (fun K hK => ?_) (AllReadyH.cons (o := _) rfl (fun K hK => ?_) AllReadyH.nil)
              · go_simp
                refine hK.out _ _ ?_ (fun hHeld => ?_)
                · exact trivial
                clear hK K
                try simp only [Act.put, List.getElem_toArray, List.getElem_cons_zero, List.getElem_cons_succ, List.setIfInBounds_toArray, List.set_cons_zero, List.set_cons_succ]
                obtain ⟨f, hf0, hfs⟩ : ∃ f, WAt (V0.alloc (.cells #[.string ⟨#[]⟩, .string ⟨#[60]⟩, .string ⟨#[1]⟩, .string ⟨#[47]⟩] 9)) V0.heap.size 4 f ∧ ∀ r, r < 4 → (f r).size ≤ 60 := wat_new V0 _ _ 60 4 (by decide +kernel)
                have hnb : some V0.heap.size ≠ some b := by have h1 := DD.out.hz; have h2 := DD.out.hb; intro e; injection e; omega
                have DX := Lib.hid (DD.out.below (below1 V0 (.cells #[.string ⟨#[]⟩, .string ⟨#[60]⟩, .string ⟨#[1]⟩, .string ⟨#[47]⟩] 9)))
                have hap : ∀ g, (Value.slice a2 n2 c2).ownBlock = some g → g ≠ V0.heap.size := fun g e => by have := (DD.out.o2.lt g e).2; omega
                have hnx : V0.heap.size ≠ w.heap.size + 1 := by have := DD.out.hz; omega
                generalize hLB : V0.heap.size = nb at hf0 hnb hap hnx ⊢
                clear hLB
                generalize V0.alloc (.cells #[.string ⟨#[]⟩, .string ⟨#[60]⟩, .string ⟨#[1]⟩, .string ⟨#[47]⟩] 9) = Vx at hf0 DX hHeld ⊢
                refine wpAnyH_mono (S' := (fun W => True ∧ ∀ r, r < 4 → W.cell? ⟨nb, r, none⟩ = some (.string (f r)))) (fun _ h => h.1) _ _ _ _ ?_
                have hHeld2 : True ∧ (∀ r, r < 4 → Vx.cell? ⟨nb, r, none⟩ = some (.string (f r))) := ⟨trivial, hf0⟩
                have HF := Lib.hid hf0
                clear hHeld hf0 DD
                have DD := DX
                clear DX
                refine wpAnyH_ready (rs := [4]) (by kernel_rfl) (by simp) ?_
                refine AllReadyH.cons (o := _) rfl (fun K hK => ?_) AllReadyH.nil
                go_simp
                refine (KN4.out _ (by omega) _ DD.out.src).mono ?_
                rintro e V5 ⟨r5, rfl, hr5, hs5, hg5⟩
                have hr5 := hr5 (by decide)
                have hr5n : r5 < 4 := by omega
                have D5 := Lib.hid (DD.out.call hs5 hg5)
                have HF5 := Lib.hid (wAtG HF.out hg5 hnb)
                clear HF
                have HF := HF5
                clear HF5
                clear hs5 hg5 DD
                have DD := D5
                clear D5
                go_wp2_with fail
                refine hK.out _ _ ?_ (fun hHeld => ?_)
                · exact ⟨trivial, HF.out⟩
                clear hK K
                try simp only [Act.put, List.getElem_toArray, List.getElem_cons_zero, List.getElem_cons_succ, List.setIfInBounds_toArray, List.set_cons_zero, List.set_cons_succ]
                refine wpAnyH_take (i := 5) (oi := _) (v := ?_) rfl (by kernel_rfl) (by kernel_rfl) (by kernel_rfl) (fun _ _ _ h => h) (Or.inl ⟨by rfl, ?_⟩) (by with_reducible assumption) ?_
                rotate_left
                · intro Wz hSw
                  clear hSw
                  go_simp
                  all_goals (with_reducible rfl)
                try simp only [Act.put, List.getElem_toArray, List.getElem_cons_zero, List.getElem_cons_succ, List.setIfInBounds_toArray, List.set_cons_zero, List.set_cons_succ]
                refine wpAnyH_take (i := 6) (oi := _) (v := ?_) rfl (by kernel_rfl) (by kernel_rfl) (by kernel_rfl) (fun _ _ _ h => h) (Or.inl ⟨by rfl, ?_⟩) (by with_reducible assumption) ?_
                rotate_left
                · intro Wz hSw
                  have hw := hSw.2 r5 hr5n
                  clear hSw
                  go_simp
                  all_goals (with_reducible rfl)
                try simp only [Act.put, List.getElem_toArray, List.getElem_cons_zero, List.getElem_cons_succ, List.setIfInBounds_toArray, List.set_cons_zero, List.set_cons_succ]
                refine wpAnyH_ready (rs := [7]) (by kernel_rfl) (by simp) ?_
                refine AllReadyH.cons (o := _) rfl (fun K hK => ?_) AllReadyH.nil
                have DX := Lib.hid (DD.out.below (below1 V5 (.cells #[.string (f r5)] 9)))
                have HFX := Lib.hid (wAtA HF.out (.cells #[.string (f r5)] 9))
                go_simp
                refine hK.out _ _ ?_ (fun hHeld => ?_)
                · exact ⟨trivial, HFX.out⟩
                clear hK K
                try simp only [Act.put, List.getElem_toArray, List.getElem_cons_zero, List.getElem_cons_succ, List.setIfInBounds_toArray, List.set_cons_zero, List.set_cons_succ]
                clear HF DD
                have HF := HFX
                have DD := DX
                clear HFX DX
                have hone : (V5.alloc (.cells #[.string (f r5)] 9)).cell? ⟨V5.heap.size, 0, none⟩ = some (.string (f r5)) := by simp
                generalize hOB : V5.heap.size = ob at hone ⊢
                clear hOB
                generalize V5.alloc (.cells #[.string (f r5)] 9) = Vy at HF DD hone hHeld ⊢
                refine wpAnyH_ready (rs := [8]) (by kernel_rfl) (by simp) ?_
                refine AllReadyH.cons (o := _) rfl (fun K hK => ?_) AllReadyH.nil
                refine step_own_at (by rfl) _ _ 48 rfl 9 j0 (.string ByteArray.empty) 1 16 Tryz.underlying48 hj hjz0 hjz1 hjz2 rfl (by decide) (w.heap.size + 2) _ n2 _ (by rfl) DD.out.o2 ⟨ob, 0, none⟩ 1 1 [.string (f r5)] (by rfl) rfl (oneAt hone) (by simp [Value.oneCell']) (by unfold maxLen; omega) (by omega) (by have := DD.out.hz; omega) ?_
                intro v' w7 hown hgr hat
                obtain ⟨a8, c8, rfl⟩ := owns_slice hown
                have q7 := (DD.out.own hgr (fun g e => (DD.out.o2.lt g e).1)).2.1
                have y7 := q7.c1
                have f7 := q7.fz 1 (by decide)
                have HF7 := Lib.hid (wAtG HF.out hgr (fun e => hap _ e.symm rfl))
                have hfz := hfs r5 hr5n
                have D7 := Lib.hid (DD.out.setT (.inr rfl) hgr (ts' := ts ++ [f r5]) (by rw [List.map_append]; exact hown) (by rw [List.length_append, DD.out.l2]; rfl) (getD_snoc _ _ _ (fun s : ByteArray => s.size ≤ 60) DD.out.s2 hfz))
                have HF8 := Lib.hid (wAtS HF7.out hnx 1 (.slice a8 (n2 + 1) c8))
                have hap8 : ∀ g, (Value.slice a8 (n2 + 1) c8).ownBlock = some g → g ≠ nb := by
                  intro g hg
                  rcases hat with e | e
                  · exact hap g (e ▸ hg)
                  · rw [e] at hg
                    have := World.block_lt_of_cell? _ _ (HF.out 0 (by decide))
                    simp at hg this
                    omega
                refine hK.out _ _ ?_ (fun hHeld => ?_)
                · exact ⟨trivial, HF7.out⟩
                clear hK K
                try simp only [Act.put, List.getElem_toArray, List.getElem_cons_zero, List.getElem_cons_succ, List.setIfInBounds_toArray, List.set_cons_zero, List.set_cons_succ]
                refine wpAnyH_take (i := 9) (oi := _) (v := ?_) rfl (by kernel_rfl) (by kernel_rfl) (by kernel_rfl) (fun _ _ _ h => h) (Or.inl ⟨by rfl, ?_⟩) (by with_reducible assumption) ?_
                rotate_left
                · intro Wz hSw
                  clear hSw
                  go_simp
                  all_goals (with_reducible rfl)
                try simp only [Act.put, List.getElem_toArray, List.getElem_cons_zero, List.getElem_cons_succ, List.setIfInBounds_toArray, List.set_cons_zero, List.set_cons_succ]
                refine wpAnyH_ready (rs := [10]) (by kernel_rfl) (by simp) ?_
                refine AllReadyH.cons (o := _) rfl (fun K hK => ?_) AllReadyH.nil
                go_simp
                refine hK.out _ _ ?_ (fun hHeld => ?_)
                · exact ⟨trivial, HF8.out⟩
                clear hK K
                try simp only [Act.put, List.getElem_toArray, List.getElem_cons_zero, List.getElem_cons_succ, List.setIfInBounds_toArray, List.set_cons_zero, List.set_cons_succ]
                refine wpAnyH_done (by kernel_rfl) ?_ _
                refine NoPanic.normal ?_
                clear hown hgr hat q7 y7 f7 HF7 HF DD hone
                have u0 := D7.out.res.c0
                have u1 := D7.out.res.c1
                have v0 := D7.out.res.fz 0 (by decide)
                have v1 := D7.out.res.fz 1 (by decide)
                have d0 := D7.out.box.c0
                have d1 := D7.out.box.c1
                have z0 : _ = some (Value.slice a1 n1 c1) := ((D7.out.res.set0 (.slice a1 n1 c1)).set1 (.slice a8 (n2 + 1) c8)).c0
                have z1 : _ = some (Value.slice a8 (n2 + 1) c8) := ((D7.out.res.set0 (.slice a1 n1 c1)).set1 (.slice a8 (n2 + 1) c8)).c1
                go_wp2
                exact bodyPost_ret (v := .agg #[.slice a1 n1 c1, .slice a8 (n2 + 1) c8]) (by simp [results, Tryz.results91, go_sem, z0, z1]) rfl (D7.out.done (by omega) (by omega) (by omega))
              · go_simp
                refine (KN4.out _ (by omega) _ DD.out.src).mono ?_
                rintro e V5 ⟨r5, rfl, hr5, hs5, hg5⟩
                have hr5 := hr5 (by decide)
                have hr5n : r5 < 4 := by omega
                have D5 := Lib.hid (DD.out.call hs5 hg5)
                clear hs5 hg5 DD
                have DD := D5
                clear D5
                go_wp2_with fail
                refine hK.out _ _ ?_ (fun hHeld => ?_)
                · exact trivial
                clear hK K
                try simp only [Act.put, List.getElem_toArray, List.getElem_cons_zero, List.getElem_cons_succ, List.setIfInBounds_toArray, List.set_cons_zero, List.set_cons_succ]
                refine wpAnyH_ready (rs := [2]) (by kernel_rfl) (by simp) ?_
                refine AllReadyH.cons (o := _) rfl (fun K hK => ?_) AllReadyH.nil
                go_simp
                refine hK.out _ _ ?_ (fun hHeld => ?_)
                · exact trivial
                clear hK K
                try simp only [Act.put, List.getElem_toArray, List.getElem_cons_zero, List.getElem_cons_succ, List.setIfInBounds_toArray, List.set_cons_zero, List.set_cons_succ]
                obtain ⟨f, hf0, hfs⟩ : ∃ f, WAt (V5.alloc (.cells #[.string ⟨#[]⟩, .string ⟨#[60]⟩, .string ⟨#[1]⟩, .string ⟨#[47]⟩] 9)) V5.heap.size 4 f ∧ ∀ r, r < 4 → (f r).size ≤ 60 := wat_new V5 _ _ 60 4 (by decide +kernel)
                have hnb : some V5.heap.size ≠ some b := by have h1 := DD.out.hz; have h2 := DD.out.hb; intro e; injection e; omega
                have DX := Lib.hid (DD.out.below (below1 V5 (.cells #[.string ⟨#[]⟩, .string ⟨#[60]⟩, .string ⟨#[1]⟩, .string ⟨#[47]⟩] 9)))
                have hap : ∀ g, (Value.slice a2 n2 c2).ownBlock = some g → g ≠ V5.heap.size := fun g e => by have := (DD.out.o2.lt g e).2; omega
                have hnx : V5.heap.size ≠ w.heap.size + 1 := by have := DD.out.hz; omega
                generalize hLB : V5.heap.size = nb at hf0 hnb hap hnx ⊢
                clear hLB
                generalize V5.alloc (.cells #[.string ⟨#[]⟩, .string ⟨#[60]⟩, .string ⟨#[1]⟩, .string ⟨#[47]⟩] 9) = Vx at hf0 DX hHeld ⊢
                refine wpAnyH_mono (S' := (fun W => True ∧ ∀ r, r < 4 → W.cell? ⟨nb, r, none⟩ = some (.string (f r)))) (fun _ h => h.1) _ _ _ _ ?_
                have hHeld2 : True ∧ (∀ r, r < 4 → Vx.cell? ⟨nb, r, none⟩ = some (.string (f r))) := ⟨trivial, hf0⟩
                have HF := Lib.hid hf0
                clear hHeld hf0 DD
                have DD := DX
                clear DX
                refine wpAnyH_take (i := 5) (oi := _) (v := ?_) rfl (by kernel_rfl) (by kernel_rfl) (by kernel_rfl) (fun _ _ _ h => h) (Or.inl ⟨by rfl, ?_⟩) (by with_reducible assumption) ?_
                rotate_left
                · intro Wz hSw
                  clear hSw
                  go_simp
                  all_goals (with_reducible rfl)
                try simp only [Act.put, List.getElem_toArray, List.getElem_cons_zero, List.getElem_cons_succ, List.setIfInBounds_toArray, List.set_cons_zero, List.set_cons_succ]
                refine wpAnyH_take (i := 6) (oi := _) (v := ?_) rfl (by kernel_rfl) (by kernel_rfl) (by kernel_rfl) (fun _ _ _ h => h) (Or.inl ⟨by rfl, ?_⟩) (by with_reducible assumption) ?_
                rotate_left
                · intro Wz hSw
                  have hw := hSw.2 r5 hr5n
                  clear hSw
                  go_simp
                  all_goals (with_reducible rfl)
                try simp only [Act.put, List.getElem_toArray, List.getElem_cons_zero, List.getElem_cons_succ, List.setIfInBounds_toArray, List.set_cons_zero, List.set_cons_succ]
                refine wpAnyH_ready (rs := [7]) (by kernel_rfl) (by simp) ?_
                refine AllReadyH.cons (o := _) rfl (fun K hK => ?_) AllReadyH.nil
                have DX := Lib.hid (DD.out.below (below1 Vx (.cells #[.string (f r5)] 9)))
                have HFX := Lib.hid (wAtA HF.out (.cells #[.string (f r5)] 9))
                go_simp
                refine hK.out _ _ ?_ (fun hHeld => ?_)
                · exact ⟨trivial, HFX.out⟩
                clear hK K
                try simp only [Act.put, List.getElem_toArray, List.getElem_cons_zero, List.getElem_cons_succ, List.setIfInBounds_toArray, List.set_cons_zero, List.set_cons_succ]
                clear HF DD
                have HF := HFX
                have DD := DX
                clear HFX DX
                have hone : (Vx.alloc (.cells #[.string (f r5)] 9)).cell? ⟨Vx.heap.size, 0, none⟩ = some (.string (f r5)) := by simp
                generalize hOB : Vx.heap.size = ob at hone ⊢
                clear hOB
                generalize Vx.alloc (.cells #[.string (f r5)] 9) = Vy at HF DD hone hHeld ⊢
                refine wpAnyH_ready (rs := [8]) (by kernel_rfl) (by simp) ?_
                refine AllReadyH.cons (o := _) rfl (fun K hK => ?_) AllReadyH.nil
                refine step_own_at (by rfl) _ _ 48 rfl 9 j0 (.string ByteArray.empty) 1 16 Tryz.underlying48 hj hjz0 hjz1 hjz2 rfl (by decide) (w.heap.size + 2) _ n2 _ (by rfl) DD.out.o2 ⟨ob, 0, none⟩ 1 1 [.string (f r5)] (by rfl) rfl (oneAt hone) (by simp [Value.oneCell']) (by unfold maxLen; omega) (by omega) (by have := DD.out.hz; omega) ?_
                intro v' w7 hown hgr hat
                obtain ⟨a8, c8, rfl⟩ := owns_slice hown
                have q7 := (DD.out.own hgr (fun g e => (DD.out.o2.lt g e).1)).2.1
                have y7 := q7.c1
                have f7 := q7.fz 1 (by decide)
                have HF7 := Lib.hid (wAtG HF.out hgr (fun e => hap _ e.symm rfl))
                have hfz := hfs r5 hr5n
                have D7 := Lib.hid (DD.out.setT (.inr rfl) hgr (ts' := ts ++ [f r5]) (by rw [List.map_append]; exact hown) (by rw [List.length_append, DD.out.l2]; rfl) (getD_snoc _ _ _ (fun s : ByteArray => s.size ≤ 60) DD.out.s2 hfz))
                have HF8 := Lib.hid (wAtS HF7.out hnx 1 (.slice a8 (n2 + 1) c8))
                have hap8 : ∀ g, (Value.slice a8 (n2 + 1) c8).ownBlock = some g → g ≠ nb := by
                  intro g hg
                  rcases hat with e | e
                  · exact hap g (e ▸ hg)
                  · rw [e] at hg
                    have := World.block_lt_of_cell? _ _ (HF.out 0 (by decide))
                    simp at hg this
                    omega
                refine hK.out _ _ ?_ (fun hHeld => ?_)
                · exact ⟨trivial, HF7.out⟩
                clear hK K
                try simp only [Act.put, List.getElem_toArray, List.getElem_cons_zero, List.getElem_cons_succ, List.setIfInBounds_toArray, List.set_cons_zero, List.set_cons_succ]
                refine wpAnyH_take (i := 9) (oi := _) (v := ?_) rfl (by kernel_rfl) (by kernel_rfl) (by kernel_rfl) (fun _ _ _ h => h) (Or.inl ⟨by rfl, ?_⟩) (by with_reducible assumption) ?_
                rotate_left
                · intro Wz hSw
                  clear hSw
                  go_simp
                  all_goals (with_reducible rfl)
                try simp only [Act.put, List.getElem_toArray, List.getElem_cons_zero, List.getElem_cons_succ, List.setIfInBounds_toArray, List.set_cons_zero, List.set_cons_succ]
                refine wpAnyH_ready (rs := [10]) (by kernel_rfl) (by simp) ?_
                refine AllReadyH.cons (o := _) rfl (fun K hK => ?_) AllReadyH.nil
                go_simp
                refine hK.out _ _ ?_ (fun hHeld => ?_)
                · exact ⟨trivial, HF8.out⟩
                clear hK K
                try simp only [Act.put, List.getElem_toArray, List.getElem_cons_zero, List.getElem_cons_succ, List.setIfInBounds_toArray, List.set_cons_zero, List.set_cons_succ]
                refine wpAnyH_done (by kernel_rfl) ?_ _
                refine NoPanic.normal ?_
                clear hown hgr hat q7 y7 f7 HF7 HF DD hone
                have u0 := D7.out.res.c0
                have u1 := D7.out.res.c1
                have v0 := D7.out.res.fz 0 (by decide)
                have v1 := D7.out.res.fz 1 (by decide)
                have d0 := D7.out.box.c0
                have d1 := D7.out.box.c1
                have z0 : _ = some (Value.slice a1 n1 c1) := ((D7.out.res.set0 (.slice a1 n1 c1)).set1 (.slice a8 (n2 + 1) c8)).c0
                have z1 : _ = some (Value.slice a8 (n2 + 1) c8) := ((D7.out.res.set0 (.slice a1 n1 c1)).set1 (.slice a8 (n2 + 1) c8)).c1
                go_wp2
                exact bodyPost_ret (v := .agg #[.slice a1 n1 c1, .slice a8 (n2 + 1) c8]) (by simp [results, Tryz.results91, go_sem, z0, z1]) rfl (D7.out.done (by omega) (by omega) (by omega))
            · go_simp
              refine hK.out _ _ ?_ (fun hHeld => ?_)
              · exact trivial
              clear hK K
              try simp only [Act.put, List.getElem_toArray, List.getElem_cons_zero, List.getElem_cons_succ, List.setIfInBounds_toArray, List.set_cons_zero, List.set_cons_succ]
              obtain ⟨f, hf0, hfs⟩ : ∃ f, WAt (V0.alloc (.cells #[.string ⟨#[]⟩, .string ⟨#[60]⟩, .string ⟨#[1]⟩, .string ⟨#[47]⟩] 9)) V0.heap.size 4 f ∧ ∀ r, r < 4 → (f r).size ≤ 60 := wat_new V0 _ _ 60 4 (by decide +kernel)
              have hnb : some V0.heap.size ≠ some b := by have h1 := DD.out.hz; have h2 := DD.out.hb; intro e; injection e; omega
              have DX := Lib.hid (DD.out.below (below1 V0 (.cells #[.string ⟨#[]⟩, .string ⟨#[60]⟩, .string ⟨#[1]⟩, .string ⟨#[47]⟩] 9)))
              have hap : ∀ g, (Value.slice a2 n2 c2).ownBlock = some g → g ≠ V0.heap.size := fun g e => by have := (DD.out.o2.lt g e).2; omega
              have hnx : V0.heap.size ≠ w.heap.size + 1 := by have := DD.out.hz; omega
              generalize hLB : V0.heap.size = nb at hf0 hnb hap hnx ⊢
              clear hLB
              generalize V0.alloc (.cells #[.string ⟨#[]⟩, .string ⟨#[60]⟩, .string ⟨#[1]⟩, .string ⟨#[47]⟩] 9) = Vx at hf0 DX hHeld ⊢
              refine wpAnyH_mono (S' := (fun W => True ∧ ∀ r, r < 4 → W.cell? ⟨nb, r, none⟩ = some (.string (f r)))) (fun _ h => h.1) _ _ _ _ ?_
              have hHeld2 : True ∧ (∀ r, r < 4 → Vx.cell? ⟨nb, r, none⟩ = some (.string (f r))) := ⟨trivial, hf0⟩
              have HF := Lib.hid hf0
              clear hHeld hf0 DD
              have DD := DX
              clear DX
              refine wpAnyH_ready (rs := [1, 4]) (by kernel_rfl) (by simp) ?_
              refine AllReadyH.cons (o := _) rfl (fun K hK => ?_) (AllReadyH.cons (o := _) rfl (fun K hK => ?_) AllReadyH.nil)
              · have y1 := DD.out.box.c1
                go_simp
                refine hK.out _ _ ?_ (fun hHeld => ?_)
                · exact (by with_reducible assumption)
                clear hK K
                try simp only [Act.put, List.getElem_toArray, List.getElem_cons_zero, List.getElem_cons_succ, List.setIfInBounds_toArray, List.set_cons_zero, List.set_cons_succ]
                clear y1
                refine wpAnyH_ready (rs := [4]) (by kernel_rfl) (by simp) ?_
                refine AllReadyH.cons (o := _) rfl (fun K hK => ?_) AllReadyH.nil
                go_simp
                refine (KN4.out _ (by omega) _ DD.out.src).mono ?_
                rintro e V5 ⟨r5, rfl, hr5, hs5, hg5⟩
                have hr5 := hr5 (by decide)
                have hr5n : r5 < 4 := by omega
                have D5 := Lib.hid (DD.out.call hs5 hg5)
                have HF5 := Lib.hid (wAtG HF.out hg5 hnb)
                clear HF
                have HF := HF5
                clear HF5
                clear hs5 hg5 DD
                have DD := D5
                clear D5
                go_wp2_with fail
                refine hK.out _ _ ?_ (fun hHeld => ?_)
                · exact ⟨trivial, HF.out⟩
                clear hK K
                try simp only [Act.put, List.getElem_toArray, List.getElem_cons_zero, List.getElem_cons_succ, List.setIfInBounds_toArray, List.set_cons_zero, List.set_cons_succ]
                refine wpAnyH_take (i := 5) (oi := _) (v := ?_) rfl (by kernel_rfl) (by kernel_rfl) (by kernel_rfl) (fun _ _ _ h => h) (Or.inl ⟨by rfl, ?_⟩) (by with_reducible assumption) ?_
                rotate_left
                · intro Wz hSw
                  clear hSw
                  go_simp
                  all_goals (with_reducible rfl)
                try simp only [Act.put, List.getElem_toArray, List.getElem_cons_zero, List.getElem_cons_succ, List.setIfInBounds_toArray, List.set_cons_zero, List.set_cons_succ]
                refine wpAnyH_take (i := 6) (oi := _) (v := ?_) rfl (by kernel_rfl) (by kernel_rfl) (by kernel_rfl) (fun _ _ _ h => h) (Or.inl ⟨by rfl, ?_⟩) (by with_reducible assumption) ?_
                rotate_left
                · intro Wz hSw
                  have hw := hSw.2 r5 hr5n
                  clear hSw
                  go_simp
                  all_goals (with_reducible rfl)
                try simp only [Act.put, List.getElem_toArray, List.getElem_cons_zero, List.getElem_cons_succ, List.setIfInBounds_toArray, List.set_cons_zero, List.set_cons_succ]
                refine wpAnyH_ready (rs := [7]) (by kernel_rfl) (by simp) ?_
                refine AllReadyH.cons (o := _) rfl (fun K hK => ?_) AllReadyH.nil
                have DX := Lib.hid (DD.out.below (below1 V5 (.cells #[.string (f r5)] 9)))
                have HFX := Lib.hid (wAtA HF.out (.cells #[.string (f r5)] 9))
                go_simp
                refine hK.out _ _ ?_ (fun hHeld => ?_)
                · exact ⟨trivial, HFX.out⟩
                clear hK K
                try simp only [Act.put, List.getElem_toArray, List.getElem_cons_zero, List.getElem_cons_succ, List.setIfInBounds_toArray, List.set_cons_zero, List.set_cons_succ]
                clear HF DD
                have HF := HFX
                have DD := DX
                clear HFX DX
                have hone : (V5.alloc (.cells #[.string (f r5)] 9)).cell? ⟨V5.heap.size, 0, none⟩ = some (.string (f r5)) := by simp
                generalize hOB : V5.heap.size = ob at hone ⊢
                clear hOB
                generalize V5.alloc (.cells #[.string (f r5)] 9) = Vy at HF DD hone hHeld ⊢
                refine wpAnyH_ready (rs := [8]) (by kernel_rfl) (by simp) ?_
                refine AllReadyH.cons (o := _) rfl (fun K hK => ?_) AllReadyH.nil
                refine step_own_at (by rfl) _ _ 48 rfl 9 j0 (.string ByteArray.empty) 1 16 Tryz.underlying48 hj hjz0 hjz1 hjz2 rfl (by decide) (w.heap.size + 2) _ n2 _ (by rfl) DD.out.o2 ⟨ob, 0, none⟩ 1 1 [.string (f r5)] (by rfl) rfl (oneAt hone) (by simp [Value.oneCell']) (by unfold maxLen; omega) (by omega) (by have := DD.out.hz; omega) ?_
                intro v' w7 hown hgr hat
                obtain ⟨a8, c8, rfl⟩ := owns_slice hown
                have q7 := (DD.out.own hgr (fun g e => (DD.out.o2.lt g e).1)).2.1
                have y7 := q7.c1
                have f7 := q7.fz 1 (by decide)
                have HF7 := Lib.hid (wAtG HF.out hgr (fun e => hap _ e.symm rfl))
                have hfz := hfs r5 hr5n
                have D7 := Lib.hid (DD.out.setT (.inr rfl) hgr (ts' := ts ++ [f r5]) (by rw [List.map_append]; exact hown) (by rw [List.length_append, DD.out.l2]; rfl) (getD_snoc _ _ _ (fun s : ByteArray => s.size ≤ 60) DD.out.s2 hfz))
                have HF8 := Lib.hid (wAtS HF7.out hnx 1 (.slice a8 (n2 + 1) c8))
                have hap8 : ∀ g, (Value.slice a8 (n2 + 1) c8).ownBlock = some g → g ≠ nb := by
                  intro g hg
                  rcases hat with e | e
                  · exact hap g (e ▸ hg)
                  · rw [e] at hg
                    have := World.block_lt_of_cell? _ _ (HF.out 0 (by decide))
                    simp at hg this
                    omega
                refine hK.out _ _ ?_ (fun hHeld => ?_)
                · exact ⟨trivial, HF7.out⟩
                clear hK K
                try simp only [Act.put, List.getElem_toArray, List.getElem_cons_zero, List.getElem_cons_succ, List.setIfInBounds_toArray, List.set_cons_zero, List.set_cons_succ]
                refine wpAnyH_take (i := 9) (oi := _) (v := ?_) rfl (by kernel_rfl) (by kernel_rfl) (by kernel_rfl) (fun _ _ _ h => h) (Or.inl ⟨by rfl, ?_⟩) (by with_reducible assumption) ?_
                rotate_left
                · intro Wz hSw
                  clear hSw
                  go_simp
                  all_goals (with_reducible rfl)
                try simp only [Act.put, List.getElem_toArray, List.getElem_cons_zero, List.getElem_cons_succ, List.setIfInBounds_toArray, List.set_cons_zero, List.set_cons_succ]
                refine wpAnyH_ready (rs := [10]) (by kernel_rfl) (by simp) ?_
                refine AllReadyH.cons (o := _) rfl (fun K hK => ?_) AllReadyH.nil
                go_simp
                refine hK.out _ _ ?_ (fun hHeld => ?_)
                · exact ⟨trivial, HF8.out⟩
                clear hK K
                try simp only [Act.put, List.getElem_toArray, List.getElem_cons_zero, List.getElem_cons_succ, List.setIfInBounds_toArray, List.set_cons_zero, List.set_cons_succ]
                refine wpAnyH_done (by kernel_rfl) ?_ _
                refine NoPanic.normal ?_
                clear hown hgr hat q7 y7 f7 HF7 HF DD hone
                have u0 := D7.out.res.c0
                have u1 := D7.out.res.c1
                have v0 := D7.out.res.fz 0 (by decide)
                have v1 := D7.out.res.fz 1 (by decide)
                have d0 := D7.out.box.c0
                have d1 := D7.out.box.c1
                have z0 : _ = some (Value.slice a1 n1 c1) := ((D7.out.res.set0 (.slice a1 n1 c1)).set1 (.slice a8 (n2 + 1) c8)).c0
                have z1 : _ = some (Value.slice a8 (n2 + 1) c8) := ((D7.out.res.set0 (.slice a1 n1 c1)).set1 (.slice a8 (n2 + 1) c8)).c1
                go_wp2
                exact bodyPost_ret (v := .agg #[.slice a1 n1 c1, .slice a8 (n2 + 1) c8]) (by simp [results, Tryz.results91, go_sem, z0, z1]) rfl (D7.out.done (by omega) (by omega) (by omega))
              · go_simp
                refine (KN4.out _ (by omega) _ DD.out.src).mono ?_
                rintro e V5 ⟨r5, rfl, hr5, hs5, hg5⟩
                have hr5 := hr5 (by decide)
                have hr5n : r5 < 4 := by omega
                have D5 := Lib.hid (DD.out.call hs5 hg5)
                have HF5 := Lib.hid (wAtG HF.out hg5 hnb)
                clear HF
                have HF := HF5
                clear HF5
                clear hs5 hg5 DD
                have DD := D5
                clear D5
                go_wp2_with fail
                refine hK.out _ _ ?_ (fun hHeld => ?_)
                · exact ⟨trivial, HF.out⟩
                clear hK K
                try simp only [Act.put, List.getElem_toArray, List.getElem_cons_zero, List.getElem_cons_succ, List.setIfInBounds_toArray, List.set_cons_zero, List.set_cons_succ]
                refine wpAnyH_take (i := 5) (oi := _) (v := ?_) rfl (by kernel_rfl) (by kernel_rfl) (by kernel_rfl) (fun _ _ _ h => h) (Or.inl ⟨by rfl, ?_⟩) (by with_reducible assumption) ?_
                rotate_left
                · intro Wz hSw
                  clear hSw
                  go_simp
                  all_goals (with_reducible rfl)
                try simp only [Act.put, List.getElem_toArray, List.getElem_cons_zero, List.getElem_cons_succ, List.setIfInBounds_toArray, List.set_cons_zero, List.set_cons_succ]
                refine wpAnyH_take (i := 6) (oi := _) (v := ?_) rfl (by kernel_rfl) (by kernel_rfl) (by kernel_rfl) (fun _ _ _ h => h) (Or.inl ⟨by rfl, ?_⟩) (by with_reducible assumption) ?_
                rotate_left
                · intro Wz hSw
                  have hw := hSw.2 r5 hr5n
                  clear hSw
                  go_simp
                  all_goals (with_reducible rfl)
                try simp only [Act.put, List.getElem_toArray, List.getElem_cons_zero, List.getElem_cons_succ, List.setIfInBounds_toArray, List.set_cons_zero, List.set_cons_succ]
                refine wpAnyH_ready (rs := [1, 7]) (by kernel_rfl) (by simp) ?_
                refine AllReadyH.cons (o := _) rfl (fun K hK => ?_) (AllReadyH.cons (o := _) rfl (fun K hK => ?_) AllReadyH.nil)
                · have y1 := DD.out.box.c1
                  go_simp
                  refine hK.out _ _ ?_ (fun hHeld => ?_)
                  · exact (by with_reducible assumption)
                  clear hK K
                  try simp only [Act.put, List.getElem_toArray, List.getElem_cons_zero, List.getElem_cons_succ, List.setIfInBounds_toArray, List.set_cons_zero, List.set_cons_succ]
                  clear y1
                  refine wpAnyH_ready (rs := [7]) (by kernel_rfl) (by simp) ?_
                  refine AllReadyH.cons (o := _) rfl (fun K hK => ?_) AllReadyH.nil
                  have DX := Lib.hid (DD.out.below (below1 V5 (.cells #[.string (f r5)] 9)))
                  have HFX := Lib.hid (wAtA HF.out (.cells #[.string (f r5)] 9))
                  go_simp
                  refine hK.out _ _ ?_ (fun hHeld => ?_)
                  · exact ⟨trivial, HFX.out⟩
                  clear hK K
                  try simp only [Act.put, List.getElem_toArray, List.getElem_cons_zero, List.getElem_cons_succ, List.setIfInBounds_toArray, List.set_cons_zero, List.set_cons_succ]
                  clear HF DD
                  have HF := HFX
                  have DD := DX
                  clear HFX DX
                  have hone : (V5.alloc (.cells #[.string (f r5)] 9)).cell? ⟨V5.heap.size, 0, none⟩ = some (.string (f r5)) := by simp
                  generalize hOB : V5.heap.size = ob at hone ⊢
                  clear hOB
                  generalize V5.alloc (.cells #[.string (f r5)] 9) = Vy at HF DD hone hHeld ⊢
                  refine wpAnyH_ready (rs := [8]) (by kernel_rfl) (by simp) ?_
                  refine AllReadyH.cons (o := _) rfl (fun K hK => ?_) AllReadyH.nil
                  refine step_own_at (by rfl) _ _ 48 rfl 9 j0 (.string ByteArray.empty) 1 16 Tryz.underlying48 hj hjz0 hjz1 hjz2 rfl (by decide) (w.heap.size + 2) _ n2 _ (by rfl) DD.out.o2 ⟨ob, 0, none⟩ 1 1 [.string (f r5)] (by rfl) rfl (oneAt hone) (by simp [Value.oneCell']) (by unfold maxLen; omega) (by omega) (by have := DD.out.hz; omega) ?_
                  intro v' w7 hown hgr hat
                  obtain ⟨a8, c8, rfl⟩ := owns_slice hown
                  have q7 := (DD.out.own hgr (fun g e => (DD.out.o2.lt g e).1)).2.1
                  have y7 := q7.c1
                  have f7 := q7.fz 1 (by decide)
                  have HF7 := Lib.hid (wAtG HF.out hgr (fun e => hap _ e.symm rfl))
                  have hfz := hfs r5 hr5n
                  have D7 := Lib.hid (DD.out.setT (.inr rfl) hgr (ts' := ts ++ [f r5]) (by rw [List.map_append]; exact hown) (by rw [List.length_append, DD.out.l2]; rfl) (getD_snoc _ _ _ (fun s : ByteArray => s.size ≤ 60) DD.out.s2 hfz))
                  have HF8 := Lib.hid (wAtS HF7.out hnx 1 (.slice a8 (n2 + 1) c8))
                  have hap8 : ∀ g, (Value.slice a8 (n2 + 1) c8).ownBlock = some g → g ≠ nb := by
                    intro g hg
                    rcases hat with e | e
                    · exact hap g (e ▸ hg)
                    · rw [e] at hg
                      have := World.block_lt_of_cell? _ _ (HF.out 0 (by decide))
                      simp at hg this
                      omega
                  refine hK.out _ _ ?_ (fun hHeld => ?_)
                  · exact ⟨trivial, HF7.out⟩
                  clear hK K
                  try simp only [Act.put, List.getElem_toArray, List.getElem_cons_zero, List.getElem_cons_succ, List.setIfInBounds_toArray, List.set_cons_zero, List.set_cons_succ]
                  refine wpAnyH_take (i := 9) (oi := _) (v := ?_) rfl (by kernel_rfl) (by kernel_rfl) (by kernel_rfl) (fun _ _ _ h => h) (Or.inl ⟨by rfl, ?_⟩) (by with_reducible assumption) ?_
                  rotate_left
                  · intro Wz hSw
                    clear hSw
                    go_simp
                    all_goals (with_reducible rfl)
                  try simp only [Act.put, List.getElem_toArray, List.getElem_cons_zero, List.getElem_cons_succ, List.setIfInBounds_toArray, List.set_cons_zero, List.set_cons_succ]
                  refine wpAnyH_ready (rs := [10]) (by kernel_rfl) (by simp) ?_
                  refine AllReadyH.cons (o := _) rfl (fun K hK => ?_) AllReadyH.nil
                  go_simp
                  refine hK.out _ _ ?_ (fun hHeld => ?_)
                  · exact ⟨trivial, HF8.out⟩
                  clear hK K
                  try simp only [Act.put, List.getElem_toArray, List.getElem_cons_zero, List.getElem_cons_succ, List.setIfInBounds_toArray, List.set_cons_zero, List.set_cons_succ]
                  refine wpAnyH_done (by kernel_rfl) ?_ _
                  refine NoPanic.normal ?_
                  clear hown hgr hat q7 y7 f7 HF7 HF DD hone
                  have u0 := D7.out.res.c0
                  have u1 := D7.out.res.c1
                  have v0 := D7.out.res.fz 0 (by decide)
                  have v1 := D7.out.res.fz 1 (by decide)
                  have d0 := D7.out.box.c0
                  have d1 := D7.out.box.c1
                  have z0 : _ = some (Value.slice a1 n1 c1) := ((D7.out.res.set0 (.slice a1 n1 c1)).set1 (.slice a8 (n2 + 1) c8)).c0
                  have z1 : _ = some (Value.slice a8 (n2 + 1) c8) := ((D7.out.res.set0 (.slice a1 n1 c1)).set1 (.slice a8 (n2 + 1) c8)).c1
                  go_wp2
                  exact bodyPost_ret (v := .agg #[.slice a1 n1 c1, .slice a8 (n2 + 1) c8]) (by simp [results, Tryz.results91, go_sem, z0, z1]) rfl (D7.out.done (by omega) (by omega) (by omega))
                · have DX := Lib.hid (DD.out.below (below1 V5 (.cells #[.string (f r5)] 9)))
                  have HFX := Lib.hid (wAtA HF.out (.cells #[.string (f r5)] 9))
                  go_simp
                  refine hK.out _ _ ?_ (fun hHeld => ?_)
                  · exact ⟨trivial, HFX.out⟩
                  clear hK K
                  try simp only [Act.put, List.getElem_toArray, List.getElem_cons_zero, List.getElem_cons_succ, List.setIfInBounds_toArray, List.set_cons_zero, List.set_cons_succ]
                  clear HF DD
                  have HF := HFX
                  have DD := DX
                  clear HFX DX
                  have hone : (V5.alloc (.cells #[.string (f r5)] 9)).cell? ⟨V5.heap.size, 0, none⟩ = some (.string (f r5)) := by simp
                  generalize hOB : V5.heap.size = ob at hone ⊢
                  clear hOB
                  generalize V5.alloc (.cells #[.string (f r5)] 9) = Vy at HF DD hone hHeld ⊢
                  refine wpAnyH_ready (rs := [1]) (by kernel_rfl) (by simp) ?_
                  refine AllReadyH.cons (o := _) rfl (fun K hK => ?_) AllReadyH.nil
                  have y1 := DD.out.box.c1
                  go_simp
                  refine hK.out _ _ ?_ (fun hHeld => ?_)
                  · exact (by with_reducible assumption)
                  clear hK K
                  try simp only [Act.put, List.getElem_toArray, List.getElem_cons_zero, List.getElem_cons_succ, List.setIfInBounds_toArray, List.set_cons_zero, List.set_cons_succ]
                  clear y1
                  refine wpAnyH_ready (rs := [8]) (by kernel_rfl) (by simp) ?_
                  refine AllReadyH.cons (o := _) rfl (fun K hK => ?_) AllReadyH.nil
                  refine step_own_at (by rfl) _ _ 48 rfl 9 j0 (.string ByteArray.empty) 1 16 Tryz.underlying48 hj hjz0 hjz1 hjz2 rfl (by decide) (w.heap.size + 2) _ n2 _ (by rfl) DD.out.o2 ⟨ob, 0, none⟩ 1 1 [.string (f r5)] (by rfl) rfl (oneAt hone) (by simp [Value.oneCell']) (by unfold maxLen; omega) (by omega) (by have := DD.out.hz; omega) ?_
                  intro v' w7 hown hgr hat
                  obtain ⟨a8, c8, rfl⟩ := owns_slice hown
                  have q7 := (DD.out.own hgr (fun g e => (DD.out.o2.lt g e).1)).2.1
                  have y7 := q7.c1
                  have f7 := q7.fz 1 (by decide)
                  have HF7 := Lib.hid (wAtG HF.out hgr (fun e => hap _ e.symm rfl))
                  have hfz := hfs r5 hr5n
                  have D7 := Lib.hid (DD.out.setT (.inr rfl) hgr (ts' := ts ++ [f r5]) (by rw [List.map_append]; exact hown) (by rw [List.length_append, DD.out.l2]; rfl) (getD_snoc _ _ _ (fun s : ByteArray => s.size ≤ 60) DD.out.s2 hfz))
                  have HF8 := Lib.hid (wAtS HF7.out hnx 1 (.slice a8 (n2 + 1) c8))
                  have hap8 : ∀ g, (Value.slice a8 (n2 + 1) c8).ownBlock = some g → g ≠ nb := by
                    intro g hg
                    rcases hat with e | e
                    · exact hap g (e ▸ hg)
                    · rw [e] at hg
                      have := World.block_lt_of_cell? _ _ (HF.out 0 (by decide))
                      simp at hg this
                      omega
                  refine hK.out _ _ ?_ (fun hHeld => ?_)
                  · exact ⟨trivial, HF7.out⟩
                  clear hK K
                  try simp only [Act.put, List.getElem_toArray, List.getElem_cons_zero, List.getElem_cons_succ, List.setIfInBounds_toArray, List.set_cons_zero, List.set_cons_succ]
                  refine wpAnyH_take (i := 9) (oi := _) (v := ?_) rfl (by kernel_rfl) (by kernel_rfl) (by kernel_rfl) (fun _ _ _ h => h) (Or.inl ⟨by rfl, ?_⟩) (by with_reducible assumption) ?_
                  rotate_left
                  · intro Wz hSw
                    clear hSw
                    go_simp
                    all_goals (with_reducible rfl)
                  try simp only [Act.put, List.getElem_toArray, List.getElem_cons_zero, List.getElem_cons_succ, List.setIfInBounds_toArray, List.set_cons_zero, List.set_cons_succ]
                  refine wpAnyH_ready (rs := [10]) (by kernel_rfl) (by simp) ?_
                  refine AllReadyH.cons (o := _) rfl (fun K hK => ?_) AllReadyH.nil
                  go_simp
                  refine hK.out _ _ ?_ (fun hHeld => ?_)
                  · exact ⟨trivial, HF8.out⟩
                  clear hK K
                  try simp only [Act.put, List.getElem_toArray, List.getElem_cons_zero, List.getElem_cons_succ, List.setIfInBounds_toArray, List.set_cons_zero, List.set_cons_succ]
                  refine wpAnyH_done (by kernel_rfl) ?_ _
                  refine NoPanic.normal ?_
                  clear hown hgr hat q7 y7 f7 HF7 HF DD hone
                  have u0 := D7.out.res.c0
                  have u1 := D7.out.res.c1
                  have v0 := D7.out.res.fz 0 (by decide)
                  have v1 := D7.out.res.fz 1 (by decide)
                  have d0 := D7.out.box.c0
                  have d1 := D7.out.box.c1
                  have z0 : _ = some (Value.slice a1 n1 c1) := ((D7.out.res.set0 (.slice a1 n1 c1)).set1 (.slice a8 (n2 + 1) c8)).c0
                  have z1 : _ = some (Value.slice a8 (n2 + 1) c8) := ((D7.out.res.set0 (.slice a1 n1 c1)).set1 (.slice a8 (n2 + 1) c8)).c1
                  go_wp2
                  exact bodyPost_ret (v := .agg #[.slice a1 n1 c1, .slice a8 (n2 + 1) c8]) (by simp [results, Tryz.results91, go_sem, z0, z1]) rfl (D7.out.done (by omega) (by omega) (by omega))
            · go_simp
              refine (KN4.out _ (by omega) _ DD.out.src).mono ?_
              rintro e V5 ⟨r5, rfl, hr5, hs5, hg5⟩
              have hr5 := hr5 (by decide)
              have hr5n : r5 < 4 := by omega
              have D5 := Lib.hid (DD.out.call hs5 hg5)
              clear hs5 hg5 DD
              have DD := D5
              clear D5
              go_wp2_with fail
              refine hK.out _ _ ?_ (fun hHeld => ?_)
              · exact trivial
              clear hK K
              try simp only [Act.put, List.getElem_toArray, List.getElem_cons_zero, List.getElem_cons_succ, List.setIfInBounds_toArray, List.set_cons_zero, List.set_cons_succ]
              refine wpAnyH_ready (rs := [1, 2]) (by kernel_rfl) (by simp) ?_
              refine AllReadyH.cons (o := _) rfl (fun K hK => ?_) (AllReadyH.cons (o := _) rfl (fun K hK => ?_) AllReadyH.nil)
              · have y1 := DD.out.box.c1
                go_simp
                refine hK.out _ _ ?_ (fun hHeld => ?_)
                · exact (by with_reducible assumption)
                clear hK K
                try simp only [Act.put, List.getElem_toArray, List.getElem_cons_zero, List.getElem_cons_succ, List.setIfInBounds_toArray, List.set_cons_zero, List.set_cons_succ]
                clear y1
                refine wpAnyH_ready (rs := [2]) (by kernel_rfl) (by simp) ?_
                refine AllReadyH.cons (o := _) rfl (fun K hK => ?_) AllReadyH.nil
                go_simp
                refine hK.out _ _ ?_ (fun hHeld => ?_)
                · exact trivial
                clear hK K
                try simp only [Act.put, List.getElem_toArray, List.getElem_cons_zero, List.getElem_cons_succ, List.setIfInBounds_toArray, List.set_cons_zero, List.set_cons_succ]
                obtain ⟨f, hf0, hfs⟩ : ∃ f, WAt (V5.alloc (.cells #[.string ⟨#[]⟩, .string ⟨#[60]⟩, .string ⟨#[1]⟩, .string ⟨#[47]⟩] 9)) V5.heap.size 4 f ∧ ∀ r, r < 4 → (f r).size ≤ 60 := wat_new V5 _ _ 60 4 (by decide +kernel)
                have hnb : some V5.heap.size ≠ some b := by have h1 := DD.out.hz; have h2 := DD.out.hb; intro e; injection e; omega
                have DX := Lib.hid (DD.out.below (below1 V5 (.cells #[.string ⟨#[]⟩, .string ⟨#[60]⟩, .string ⟨#[1]⟩, .string ⟨#[47]⟩] 9)))
                have hap : ∀ g, (Value.slice a2 n2 c2).ownBlock = some g → g ≠ V5.heap.size := fun g e => by have := (DD.out.o2.lt g e).2; omega
                have hnx : V5.heap.size ≠ w.heap.size + 1 := by have := DD.out.hz; omega
                generalize hLB : V5.heap.size = nb at hf0 hnb hap hnx ⊢
                clear hLB
                generalize V5.alloc (.cells #[.string ⟨#[]⟩, .string ⟨#[60]⟩, .string ⟨#[1]⟩, .string ⟨#[47]⟩] 9) = Vx at hf0 DX hHeld ⊢
                refine wpAnyH_mono (S' := (fun W => True ∧ ∀ r, r < 4 → W.cell? ⟨nb, r, none⟩ = some (.string (f r)))) (fun _ h => h.1) _ _ _ _ ?_
                have hHeld2 : True ∧ (∀ r, r < 4 → Vx.cell? ⟨nb, r, none⟩ = some (.string (f r))) := ⟨trivial, hf0⟩
                have HF := Lib.hid hf0
                clear hHeld hf0 DD
                have DD := DX
                clear DX
                refine wpAnyH_take (i := 5) (oi := _) (v := ?_) rfl (by kernel_rfl) (by kernel_rfl) (by kernel_rfl) (fun _ _ _ h => h) (Or.inl ⟨by rfl, ?_⟩) (by with_reducible assumption) ?_
                rotate_left
                · intro Wz hSw
                  clear hSw
                  go_simp
                  all_goals (with_reducible rfl)
                try simp only [Act.put, List.getElem_toArray, List.getElem_cons_zero, List.getElem_cons_succ, List.setIfInBounds_toArray, List.set_cons_zero, List.set_cons_succ]
                refine wpAnyH_take (i := 6) (oi := _) (v := ?_) rfl (by kernel_rfl) (by kernel_rfl) (by kernel_rfl) (fun _ _ _ h => h) (Or.inl ⟨by rfl, ?_⟩) (by with_reducible assumption) ?_
                rotate_left
                · intro Wz hSw
                  have hw := hSw.2 r5 hr5n
                  clear hSw
                  go_simp
                  all_goals (with_reducible rfl)
                try simp only [Act.put, List.getElem_toArray, List.getElem_cons_zero, List.getElem_cons_succ, List.setIfInBounds_toArray, List.set_cons_zero, List.set_cons_succ]
                refine wpAnyH_ready (rs := [7]) (by kernel_rfl) (by simp) ?_
                refine AllReadyH.cons (o := _) rfl (fun K hK => ?_) AllReadyH.nil
                have DX := Lib.hid (DD.out.below (below1 Vx (.cells #[.string (f r5)] 9)))
                have HFX := Lib.hid (wAtA HF.out (.cells #[.string (f r5)] 9))
                go_simp
                refine hK.out _ _ ?_ (fun hHeld => ?_)
                · exact ⟨trivial, HFX.out⟩
                clear hK K
                try simp only [Act.put, List.getElem_toArray, List.getElem_cons_zero, List.getElem_cons_succ, List.setIfInBounds_toArray, List.set_cons_zero, List.set_cons_succ]
                clear HF DD
                have HF := HFX
                have DD := DX
                clear HFX DX
                have hone : (Vx.alloc (.cells #[.string (f r5)] 9)).cell? ⟨Vx.heap.size, 0, none⟩ = some (.string (f r5)) := by simp
                generalize hOB : Vx.heap.size = ob at hone ⊢
                clear hOB
                generalize Vx.alloc (.cells #[.string (f r5)] 9) = Vy at HF DD hone hHeld ⊢
                refine wpAnyH_ready (rs := [8]) (by kernel_rfl) (by simp) ?_
                refine AllReadyH.cons (o := _) rfl (fun K hK => ?_) AllReadyH.nil
                refine step_own_at (by rfl) _ _ 48 rfl 9 j0 (.string ByteArray.empty) 1 16 Tryz.underlying48 hj hjz0 hjz1 hjz2 rfl (by decide) (w.heap.size + 2) _ n2 _ (by rfl) DD.out.o2 ⟨ob, 0, none⟩ 1 1 [.string (f r5)] (by rfl) rfl (oneAt hone) (by simp [Value.oneCell']) (by unfold maxLen; omega) (by omega) (by have := DD.out.hz; omega) ?_
                intro v' w7 hown hgr hat
                obtain ⟨a8, c8, rfl⟩ := owns_slice hown
                have q7 := (DD.out.own hgr (fun g e => (DD.out.o2.lt g e).1)).2.1
                have y7 := q7.c1
                have f7 := q7.fz 1 (by decide)
                have HF7 := Lib.hid (wAtG HF.out hgr (fun e => hap _ e.symm rfl))
                have hfz := hfs r5 hr5n
                have D7 := Lib.hid (DD.out.setT (.inr rfl) hgr (ts' := ts ++ [f r5]) (by rw [List.map_append]; exact hown) (by rw [List.length_append, DD.out.l2]; rfl) (getD_snoc _ _ _ (fun s : ByteArray => s.size ≤ 60) DD.out.s2 hfz))
                have HF8 := Lib.hid (wAtS HF7.out hnx 1 (.slice a8 (n2 + 1) c8))
                have hap8 : ∀ g, (Value.slice a8 (n2 + 1) c8).ownBlock = some g → g ≠ nb := by
                  intro g hg
                  rcases hat with e | e
                  · exact hap g (e ▸ hg)
                  · rw [e] at hg
                    have := World.block_lt_of_cell? _ _ (HF.out 0 (by decide))
                    simp at hg this
                    omega
                refine hK.out _ _ ?_ (fun hHeld => ?_)
                · exact ⟨trivial, HF7.out⟩
                clear hK K
                try simp only [Act.put, List.getElem_toArray, List.getElem_cons_zero, List.getElem_cons_succ, List.setIfInBounds_toArray, List.set_cons_zero, List.set_cons_succ]
                refine wpAnyH_take (i := 9) (oi := _) (v := ?_) rfl (by kernel_rfl) (by kernel_rfl) (by kernel_rfl) (fun _ _ _ h => h) (Or.inl ⟨by rfl, ?_⟩) (by with_reducible assumption) ?_
                rotate_left
                · intro Wz hSw
                  clear hSw
                  go_simp
                  all_goals (with_reducible rfl)
                try simp only [Act.put, List.getElem_toArray, List.getElem_cons_zero, List.getElem_cons_succ, List.setIfInBounds_toArray, List.set_cons_zero, List.set_cons_succ]
                refine wpAnyH_ready (rs := [10]) (by kernel_rfl) (by simp) ?_
                refine AllReadyH.cons (o := _) rfl (fun K hK => ?_) AllReadyH.nil
                go_simp
                refine hK.out _ _ ?_ (fun hHeld => ?_)
                · exact ⟨trivial, HF8.out⟩
                clear hK K
                try simp only [Act.put, List.getElem_toArray, List.getElem_cons_zero, List.getElem_cons_succ, List.setIfInBounds_toArray, List.set_cons_zero, List.set_cons_succ]
                refine wpAnyH_done (by kernel_rfl) ?_ _
                refine NoPanic.normal ?_
                clear hown hgr hat q7 y7 f7 HF7 HF DD hone
                have u0 := D7.out.res.c0
                have u1 := D7.out.res.c1
                have v0 := D7.out.res.fz 0 (by decide)
                have v1 := D7.out.res.fz 1 (by decide)
                have d0 := D7.out.box.c0
                have d1 := D7.out.box.c1
                have z0 : _ = some (Value.slice a1 n1 c1) := ((D7.out.res.set0 (.slice a1 n1 c1)).set1 (.slice a8 (n2 + 1) c8)).c0
                have z1 : _ = some (Value.slice a8 (n2 + 1) c8) := ((D7.out.res.set0 (.slice a1 n1 c1)).set1 (.slice a8 (n2 + 1) c8)).c1
                go_wp2
                exact bodyPost_ret (v := .agg #[.slice a1 n1 c1, .slice a8 (n2 + 1) c8]) (by simp [results, Tryz.results91, go_sem, z0, z1]) rfl (D7.out.done (by omega) (by omega) (by omega))
              · go_simp
                refine hK.out _ _ ?_ (fun hHeld => ?_)
                · exact trivial
                clear hK K
                try simp only [Act.put, List.getElem_toArray, List.getElem_cons_zero, List.getElem_cons_succ, List.setIfInBounds_toArray, List.set_cons_zero, List.set_cons_succ]
                obtain ⟨f, hf0, hfs⟩ : ∃ f, WAt (V5.alloc (.cells #[.string ⟨#[]⟩, .string ⟨#[60]⟩, .string ⟨#[1]⟩, .string ⟨#[47]⟩] 9)) V5.heap.size 4 f ∧ ∀ r, r < 4 → (f r).size ≤ 60 := wat_new V5 _ _ 60 4 (by decide +kernel)
                have hnb : some V5.heap.size ≠ some b := by have h1 := DD.out.hz; have h2 := DD.out.hb; intro e; injection e; omega
                have DX := Lib.hid (DD.out.below (below1 V5 (.cells #[.string ⟨#[]⟩, .string ⟨#[60]⟩, .string ⟨#[1]⟩, .string ⟨#[47]⟩] 9)))
                have hap : ∀ g, (Value.slice a2 n2 c2).ownBlock = some g → g ≠ V5.heap.size := fun g e => by have := (DD.out.o2.lt g e).2; omega
                have hnx : V5.heap.size ≠ w.heap.size + 1 := by have := DD.out.hz; omega
                generalize hLB : V5.heap.size = nb at hf0 hnb hap hnx ⊢
                clear hLB
                generalize V5.alloc (.cells #[.string ⟨#[]⟩, .string ⟨#[60]⟩, .string ⟨#[1]⟩, .string ⟨#[47]⟩] 9) = Vx at hf0 DX hHeld ⊢
                refine wpAnyH_mono (S' := (fun W => True ∧ ∀ r, r < 4 → W.cell? ⟨nb, r, none⟩ = some (.string (f r)))) (fun _ h => h.1) _ _ _ _ ?_
                have hHeld2 : True ∧ (∀ r, r < 4 → Vx.cell? ⟨nb, r, none⟩ = some (.string (f r))) := ⟨trivial, hf0⟩
                have HF := Lib.hid hf0
                clear hHeld hf0 DD
                have DD := DX
                clear DX
                refine wpAnyH_take (i := 5) (oi := _) (v := ?_) rfl (by kernel_rfl) (by kernel_rfl) (by kernel_rfl) (fun _ _ _ h => h) (Or.inl ⟨by rfl, ?_⟩) (by with_reducible assumption) ?_
                rotate_left
                · intro Wz hSw
                  clear hSw
                  go_simp
                  all_goals (with_reducible rfl)
                try simp only [Act.put, List.getElem_toArray, List.getElem_cons_zero, List.getElem_cons_succ, List.setIfInBounds_toArray, List.set_cons_zero, List.set_cons_succ]
                refine wpAnyH_take (i := 6) (oi := _) (v := ?_) rfl (by kernel_rfl) (by kernel_rfl) (by kernel_rfl) (fun _ _ _ h => h) (Or.inl ⟨by rfl, ?_⟩) (by with_reducible assumption) ?_
                rotate_left
                · intro Wz hSw
                  have hw := hSw.2 r5 hr5n
                  clear hSw
                  go_simp
                  all_goals (with_reducible rfl)
                try simp only [Act.put, List.getElem_toArray, List.getElem_cons_zero, List.getElem_cons_succ, List.setIfInBounds_toArray, List.set_cons_zero, List.set_cons_succ]
                refine wpAnyH_ready (rs := [1, 7]) (by kernel_rfl) (by simp) ?_
                refine AllReadyH.cons (o := _) rfl (fun K hK => ?_) (AllReadyH.cons (o := _) rfl (fun K hK => ?_) AllReadyH.nil)
                · have y1 := DD.out.box.c1
                  go_simp
                  refine hK.out _ _ ?_ (fun hHeld => ?_)
                  · exact (by with_reducible assumption)
                  clear hK K
                  try simp only [Act.put, List.getElem_toArray, List.getElem_cons_zero, List.getElem_cons_succ, List.setIfInBounds_toArray, List.set_cons_zero, List.set_cons_succ]
                  clear y1
                  refine wpAnyH_ready (rs := [7]) (by kernel_rfl) (by simp) ?_
                  refine AllReadyH.cons (o := _) rfl (fun K hK => ?_) AllReadyH.nil
                  have DX := Lib.hid (DD.out.below (below1 Vx (.cells #[.string (f r5)] 9)))
                  have HFX := Lib.hid (wAtA HF.out (.cells #[.string (f r5)] 9))
                  go_simp
                  refine hK.out _ _ ?_ (fun hHeld => ?_)
                  · exact ⟨trivial, HFX.out⟩
                  clear hK K
                  try simp only [Act.put, List.getElem_toArray, List.getElem_cons_zero, List.getElem_cons_succ, List.setIfInBounds_toArray, List.set_cons_zero, List.set_cons_succ]
                  clear HF DD
                  have HF := HFX
                  have DD := DX
                  clear HFX DX
                  have hone : (Vx.alloc (.cells #[.string (f r5)] 9)).cell? ⟨Vx.heap.size, 0, none⟩ = some (.string (f r5)) := by simp
                  generalize hOB : Vx.heap.size = ob at hone ⊢
                  clear hOB
                  generalize Vx.alloc (.cells #[.string (f r5)] 9) = Vy at HF DD hone hHeld ⊢
                  refine wpAnyH_ready (rs := [8]) (by kernel_rfl) (by simp) ?_
                  refine AllReadyH.cons (o := _) rfl (fun K hK => ?_) AllReadyH.nil
                  refine step_own_at (by rfl) _ _ 48 rfl 9 j0 (.string ByteArray.empty) 1 16 Tryz.underlying48 hj hjz0 hjz1 hjz2 rfl (by decide) (w.heap.size + 2) _ n2 _ (by rfl) DD.out.o2 ⟨ob, 0, none⟩ 1 1 [.string (f r5)] (by rfl) rfl (oneAt hone) (by simp [Value.oneCell']) (by unfold maxLen; omega) (by omega) (by have := DD.out.hz; omega) ?_
                  intro v' w7 hown hgr hat
                  obtain ⟨a8, c8, rfl⟩ := owns_slice hown
                  have q7 := (DD.out.own hgr (fun g e => (DD.out.o2.lt g e).1)).2.1
                  have y7 := q7.c1
                  have f7 := q7.fz 1 (by decide)
                  have HF7 := Lib.hid (wAtG HF.out hgr (fun e => hap _ e.symm rfl))
                  have hfz := hfs r5 hr5n
                  have D7 := Lib.hid (DD.out.setT (.inr rfl) hgr (ts' := ts ++ [f r5]) (by rw [List.map_append]; exact hown) (by rw [List.length_append, DD.out.l2]; rfl) (getD_snoc _ _ _ (fun s : ByteArray => s.size ≤ 60) DD.out.s2 hfz))
                  have HF8 := Lib.hid (wAtS HF7.out hnx 1 (.slice a8 (n2 + 1) c8))
                  have hap8 : ∀ g, (Value.slice a8 (n2 + 1) c8).ownBlock = some g → g ≠ nb := by
                    intro g hg
                    rcases hat with e | e
                    · exact hap g (e ▸ hg)
                    · rw [e] at hg
                      have := World.block_lt_of_cell? _ _ (HF.out 0 (by decide))
                      simp at hg this
                      omega
                  refine hK.out _ _ ?_ (fun hHeld => ?_)
                  · exact ⟨trivial, HF7.out⟩
                  clear hK K
                  try simp only [Act.put, List.getElem_toArray, List.getElem_cons_zero, List.getElem_cons_succ, List.setIfInBounds_toArray, List.set_cons_zero, List.set_cons_succ]
                  refine wpAnyH_take (i := 9) (oi := _) (v := ?_) rfl (by kernel_rfl) (by kernel_rfl) (by kernel_rfl) (fun _ _ _ h => h) (Or.inl ⟨by rfl, ?_⟩) (by with_reducible assumption) ?_
                  rotate_left
                  · intro Wz hSw
                    clear hSw
                    go_simp
                    all_goals (with_reducible rfl)
                  try simp only [Act.put, List.getElem_toArray, List.getElem_cons_zero, List.getElem_cons_succ, List.setIfInBounds_toArray, List.set_cons_zero, List.set_cons_succ]
                  refine wpAnyH_ready (rs := [10]) (by kernel_rfl) (by simp) ?_
                  refine AllReadyH.cons (o := _) rfl (fun K hK => ?_) AllReadyH.nil
                  go_simp
                  refine hK.out _ _ ?_ (fun hHeld => ?_)
                  · exact ⟨trivial, HF8.out⟩
                  clear hK K
                  try simp only [Act.put, List.getElem_toArray, List.getElem_cons_zero, List.getElem_cons_succ, List.setIfInBounds_toArray, List.set_cons_zero, List.set_cons_succ]
                  refine wpAnyH_done (by kernel_rfl) ?_ _
                  refine NoPanic.normal ?_
                  clear hown hgr hat q7 y7 f7 HF7 HF DD hone
                  have u0 := D7.out.res.c0
                  have u1 := D7.out.res.c1
                  have v0 := D7.out.res.fz 0 (by decide)
                  have v1 := D7.out.res.fz 1 (by decide)
                  have d0 := D7.out.box.c0
                  have d1 := D7.out.box.c1
                  have z0 : _ = some (Value.slice a1 n1 c1) := ((D7.out.res.set0 (.slice a1 n1 c1)).set1 (.slice a8 (n2 + 1) c8)).c0
                  have z1 : _ = some (Value.slice a8 (n2 + 1) c8) := ((D7.out.res.set0 (.slice a1 n1 c1)).set1 (.slice a8 (n2 + 1) c8)).c1
                  go_wp2
                  exact bodyPost_ret (v := .agg #[.slice a1 n1 c1, .slice a8 (n2 + 1) c8]) (by simp [results, Tryz.results91, go_sem, z0, z1]) rfl (D7.out.done (by omega) (by omega) (by omega))
                · have DX := Lib.hid (DD.out.below (below1 Vx (.cells #[.string (f r5)] 9)))
                  have HFX := Lib.hid (wAtA HF.out (.cells #[.string (f r5)] 9))
                  go_simp
                  refine hK.out _ _ ?_ (fun hHeld => ?_)
                  · exact ⟨trivial, HFX.out⟩
                  clear hK K
                  try simp only [Act.put, List.getElem_toArray, List.getElem_cons_zero, List.getElem_cons_succ, List.setIfInBounds_toArray, List.set_cons_zero, List.set_cons_succ]
                  clear HF DD
                  have HF := HFX
                  have DD := DX
                  clear HFX DX
                  have hone : (Vx.alloc (.cells #[.string (f r5)] 9)).cell? ⟨Vx.heap.size, 0, none⟩ = some (.string (f r5)) := by simp
                  generalize hOB : Vx.heap.size = ob at hone ⊢
                  clear hOB
                  generalize Vx.alloc (.cells #[.string (f r5)] 9) = Vy at HF DD hone hHeld ⊢
                  refine wpAnyH_ready (rs := [1]) (by kernel_rfl) (by simp) ?_
                  refine AllReadyH.cons (o := _) rfl (fun K hK => ?_) AllReadyH.nil
                  have y1 := DD.out.box.c1
                  go_simp
                  refine hK.out _ _ ?_ (fun hHeld => ?_)
                  · exact (by with_reducible assumption)
                  clear hK K
                  try simp only [Act.put, List.getElem_toArray, List.getElem_cons_zero, List.getElem_cons_succ, List.setIfInBounds_toArray, List.set_cons_zero, List.set_cons_succ]
                  clear y1
                  refine wpAnyH_ready (rs := [8]) (by kernel_rfl) (by simp) ?_
                  refine AllReadyH.cons (o := _) rfl (fun K hK => ?_) AllReadyH.nil
                  refine step_own_at (by rfl) _ _ 48 rfl 9 j0 (.string ByteArray.empty) 1 16 Tryz.underlying48 hj hjz0 hjz1 hjz2 rfl (by decide) (w.heap.size + 2) _ n2 _ (by rfl) DD.out.o2 ⟨ob, 0, none⟩ 1 1 [.string (f r5)] (by rfl) rfl (oneAt hone) (by simp [Value.oneCell']) (by unfold maxLen; omega) (by omega) (by have := DD.out.hz; omega) ?_
                  intro v' w7 hown hgr hat
                  obtain ⟨a8, c8, rfl⟩ := owns_slice hown
                  have q7 := (DD.out.own hgr (fun g e => (DD.out.o2.lt g e).1)).2.1
                  have y7 := q7.c1
                  have f7 := q7.fz 1 (by decide)
                  have HF7 := Lib.hid (wAtG HF.out hgr (fun e => hap _ e.symm rfl))
                  have hfz := hfs r5 hr5n
                  have D7 := Lib.hid (DD.out.setT (.inr rfl) hgr (ts' := ts ++ [f r5]) (by rw [List.map_append]; exact hown) (by rw [List.length_append, DD.out.l2]; rfl) (getD_snoc _ _ _ (fun s : ByteArray => s.size ≤ 60) DD.out.s2 hfz))
                  have HF8 := Lib.hid (wAtS HF7.out hnx 1 (.slice a8 (n2 + 1) c8))
                  have hap8 : ∀ g, (Value.slice a8 (n2 + 1) c8).ownBlock = some g → g ≠ nb := by
                    intro g hg
                    rcases hat with e | e
                    · exact hap g (e ▸ hg)
                    · rw [e] at hg
                      have := World.block_lt_of_cell? _ _ (HF.out 0 (by decide))
                      simp at hg this
                      omega
                  refine hK.out _ _ ?_ (fun hHeld => ?_)
                  · exact ⟨trivial, HF7.out⟩
                  clear hK K
                  try simp only [Act.put, List.getElem_toArray, List.getElem_cons_zero, List.getElem_cons_succ, List.setIfInBounds_toArray, List.set_cons_zero, List.set_cons_succ]
                  refine wpAnyH_take (i := 9) (oi := _) (v := ?_) rfl (by kernel_rfl) (by kernel_rfl) (by kernel_rfl) (fun _ _ _ h => h) (Or.inl ⟨by rfl, ?_⟩) (by with_reducible assumption) ?_
                  rotate_left
                  · intro Wz hSw
                    clear hSw
                    go_simp
                    all_goals (with_reducible rfl)
                  try simp only [Act.put, List.getElem_toArray, List.getElem_cons_zero, List.getElem_cons_succ, List.setIfInBounds_toArray, List.set_cons_zero, List.set_cons_succ]
                  refine wpAnyH_ready (rs := [10]) (by kernel_rfl) (by simp) ?_
                  refine AllReadyH.cons (o := _) rfl (fun K hK => ?_) AllReadyH.nil
                  go_simp
                  refine hK.out _ _ ?_ (fun hHeld => ?_)
                  · exact ⟨trivial, HF8.out⟩
                  clear hK K
                  try simp only [Act.put, List.getElem_toArray, List.getElem_cons_zero, List.getElem_cons_succ, List.setIfInBounds_toArray, List.set_cons_zero, List.set_cons_succ]
                  refine wpAnyH_done (by kernel_rfl) ?_ _
                  refine NoPanic.normal ?_
                  clear hown hgr hat q7 y7 f7 HF7 HF DD hone
                  have u0 := D7.out.res.c0
                  have u1 := D7.out.res.c1
                  have v0 := D7.out.res.fz 0 (by decide)
                  have v1 := D7.out.res.fz 1 (by decide)
                  have d0 := D7.out.box.c0
                  have d1 := D7.out.box.c1
                  have z0 : _ = some (Value.slice a1 n1 c1) := ((D7.out.res.set0 (.slice a1 n1 c1)).set1 (.slice a8 (n2 + 1) c8)).c0
                  have z1 : _ = some (Value.slice a8 (n2 + 1) c8) := ((D7.out.res.set0 (.slice a1 n1 c1)).set1 (.slice a8 (n2 + 1) c8)).c1
                  go_wp2
                  exact bodyPost_ret (v := .agg #[.slice a1 n1 c1, .slice a8 (n2 + 1) c8]) (by simp [results, Tryz.results91, go_sem, z0, z1]) rfl (D7.out.done (by omega) (by omega) (by omega))
          · skip
            have y0 := D3.out.box.c0
            go_wp2_with (at_builtin; refine wpList_append_own _ rfl _ _ 47 rfl (w.heap.size + 2) 54 i0 _ 4 64 Tryz.underlying47 hi hz0 hz1 hz2 rfl (by decide) _ n1 _ rfl (D3.out.o1.alloc _) ⟨w2.heap.size, 0, none⟩ 1 1 [.string ⟨#[97, 47, 98]⟩, .string ⟨#[99]⟩, .string ⟨#[]⟩, .string ⟨#[]⟩] rfl rfl (idNew w2 _ _ _ _) (by simp [Value.oneCell']) (by unfold maxLen; omega) (by omega) (by have := D3.out.hz; simp; omega) ?_)
            intro v' w7 hown hgrow _
            obtain ⟨a', c', rfl⟩ := owns_slice hown
            have DL := D3.out.below (below1 w2 (.cells #[.string ⟨#[97, 47, 98]⟩, .string ⟨#[99]⟩, .string ⟨#[]⟩, .string ⟨#[]⟩] 54))
            have q7 := (DL.own hgrow (fun g e => (DL.o1.lt g e).1)).2.1
            have y7 := q7.c0
            have f7 := q7.fz 0 (by decide)
            have D7 := Lib.hid (DL.setI hgrow (l' := l ++ [(⟨⟨#[97, 47, 98]⟩, ⟨#[99]⟩, ⟨#[]⟩, ⟨#[]⟩⟩ : Ident)]) (by rw [idFlat_snoc]; exact hown) (by rw [List.length_append, DL.l1]; rfl) (getD_snoc _ _ _ Sm60 DL.s1 ⟨by show (3 : Nat) ≤ 60; decide, by show (1 : Nat) ≤ 60; decide, by show (0 : Nat) ≤ 60; decide, by show (0 : Nat) ≤ 60; decide⟩))
            clear hown hgrow DL q7 y0
            clear D3
            have u0 := D7.out.res.c0
            have u1 := D7.out.res.c1
            have v0 := D7.out.res.fz 0 (by decide)
            have v1 := D7.out.res.fz 1 (by decide)
            have d0 := D7.out.box.c0
            have d1 := D7.out.box.c1
            have z0 : _ = some (Value.slice a' (n1 + 1) c') := ((D7.out.res.set0 (.slice a' (n1 + 1) c')).set1 (.slice a2 n2 c2)).c0
            have z1 : _ = some (Value.slice a2 n2 c2) := ((D7.out.res.set0 (.slice a' (n1 + 1) c')).set1 (.slice a2 n2 c2)).c1
            go_wp2
            exact bodyPost_ret (v := .agg #[.slice a' (n1 + 1) c', .slice a2 n2 c2]) (by simp [results, Tryz.results91, go_sem, z0, z1]) rfl (D7.out.done (by omega) (by omega) (by omega))
          · skip
            go_wp2_with fail
            refine (l1Pick_any b a n c xs (k2 + 1) w2.heap.size 2 [10, 11] rfl (by decide) (by decide) (by omega) _ (D3.out.src.alloc _) (lit_row w2 _ .i64 [10, 11] 2 rfl (by decide)) (by have h1 := D3.out.hz; have h2 := D3.out.hb; omega)).mono ?_
            rintro e w4 ⟨z, rfl, hz, hs4, hg4⟩
            have D4 := Lib.hid ((D3.out.below (below1 w2 (.cells #[.int .i64 10, .int .i64 11] 2))).call hs4 hg4)
            clear hs4 hg4 D3
            have hz' : z = 10 ∨ z = 11 := by simpa using hz
            clear hz
            obtain ⟨q, rfl, hq⟩ : ∃ q : Nat, z = (q : Int) ∧ q ≤ 11 := by
              rcases hz' with rfl | rfl
              · exact ⟨10, rfl, by decide⟩
              · exact ⟨11, rfl, by decide⟩
            clear hz'
            go_wp2_with (at_make; refine wpList_make_full _ rfl _ _ 48 rfl (w.heap.size + 2) 9 j0 (.string ByteArray.empty) 1 Tryz.underlying48 hj hjz0 hjz1 _ _ _ _ q rfl rfl rfl rfl ?_ ?_ ?_ ?_)
            · rw [hjz2]; omega
            · unfold maxLen; omega
            · exact D4.out.hz
            intro w8 hown8 hgn
            rw [show (madeCells #[Value.string ByteArray.empty] q).toList = (List.replicate q ByteArray.empty).map Value.string by rw [toList_madeCells_one, List.map_replicate]] at hown8
            have q7 := (D4.out.own hgn (fun g e => by cases e)).2.1
            have y7 := q7.c1
            have f7 := q7.fz 1 (by decide)
            have D7 := Lib.hid (D4.out.setT (.inl rfl) hgn (ts' := List.replicate q ByteArray.empty) hown8 (by simp) (fun i => by rw [List.getD_eq_getElem?_getD, List.getElem?_replicate]; split <;> exact Nat.zero_le _))
            clear hown8 hgn q7
            have u0 := D7.out.res.c0
            have u1 := D7.out.res.c1
            have v0 := D7.out.res.fz 0 (by decide)
            have v1 := D7.out.res.fz 1 (by decide)
            have d0 := D7.out.box.c0
            have d1 := D7.out.box.c1
            have z0 : _ = some (Value.slice a1 n1 c1) := ((D7.out.res.set0 (.slice a1 n1 c1)).set1 (.slice (some ⟨w4.heap.size, 0, none⟩) q q)).c0
            have z1 : _ = some (Value.slice (some ⟨w4.heap.size, 0, none⟩) q q) := ((D7.out.res.set0 (.slice a1 n1 c1)).set1 (.slice (some ⟨w4.heap.size, 0, none⟩) q q)).c1
            go_wp2
            exact bodyPost_ret (v := .agg #[.slice a1 n1 c1, .slice (some ⟨w4.heap.size, 0, none⟩) q q]) (by simp [results, Tryz.results91, go_sem, z0, z1]) rfl (D7.out.done (by omega) (by omega) (by omega))
          · go_wp2_with fail
            refine (KI.out (k2 + 1) (by omega) _ D3.out.src).mono ?_
            rintro e w5 ⟨⟨xa, xb, xc, xd⟩, k5, rfl, hx1, hx2, hx3, hx4, hk5, hs5, hg5⟩
            dsimp only at hx1 hx2 hx3 hx4
            have D5 := D3.out.call hs5 hg5
            have D6 := Lib.hid (D5.below (below1 w5 (.cells #[.string xa, .string xb, .string xc, .string xd] 54)))
            have XW := X4.new w5 54 (.string xa) (.string xb) (.string xc) (.string xd)
            have x0 := XW.c0
            have x1 := XW.c1
            have x2 := XW.c2
            have x3 := XW.c3
            clear hs5 hg5 D5 D3 XW
            go_upto_region 22 with fail
            generalize w5.alloc (.cells #[.string xa, .string xb, .string xc, .string xd] 54) = w6 at D6 x0 x1 x2 x3 ⊢
            have y0 := D6.out.box.c0
            go_wp2_with (at_builtin; refine wpList_append_own _ rfl _ _ 47 rfl (w.heap.size + 2) 54 i0 _ 4 64 Tryz.underlying47 hi hz0 hz1 hz2 rfl (by decide) _ n1 _ rfl (D6.out.o1.alloc _) ⟨w6.heap.size, 0, none⟩ 1 1 [.string xa, .string xb, .string xc, .string xd] rfl rfl (idNew w6 _ _ _ _) (by simp [Value.oneCell']) (by unfold maxLen; omega) (by omega) (by have := D6.out.hz; simp; omega) ?_)
            intro v' w7 hown hgrow _
            obtain ⟨a', c', rfl⟩ := owns_slice hown
            have DL := D6.out.below (below1 w6 (.cells #[.string xa, .string xb, .string xc, .string xd] 54))
            have q7 := (DL.own hgrow (fun g e => (DL.o1.lt g e).1)).2.1
            have y7 := q7.c0
            have f7 := q7.fz 0 (by decide)
            have D7 := Lib.hid (DL.setI hgrow (l' := l ++ [(⟨xa, xb, xc, xd⟩ : Ident)]) (by rw [idFlat_snoc]; exact hown) (by rw [List.length_append, DL.l1]; rfl) (getD_snoc _ _ _ Sm60 DL.s1 ⟨hx1, hx2, hx3, hx4⟩))
            clear hown hgrow DL q7 y0
            clear x0 x1 x2 x3
            have u0 := D7.out.res.c0
            have u1 := D7.out.res.c1
            have v0 := D7.out.res.fz 0 (by decide)
            have v1 := D7.out.res.fz 1 (by decide)
            have d0 := D7.out.box.c0
            have d1 := D7.out.box.c1
            have z0 : _ = some (Value.slice a' (n1 + 1) c') := ((D7.out.res.set0 (.slice a' (n1 + 1) c')).set1 (.slice a2 n2 c2)).c0
            have z1 : _ = some (Value.slice a2 n2 c2) := ((D7.out.res.set0 (.slice a' (n1 + 1) c')).set1 (.slice a2 n2 c2)).c1
            go_wp2
            exact bodyPost_ret (v := .agg #[.slice a' (n1 + 1) c', .slice a2 n2 c2]) (by simp [results, Tryz.results91, go_sem, z0, z1]) rfl (D7.out.done (by omega) (by omega) (by omega))
          · have s0 : ¬ (((r3 + 1 + 1 + 1 + 1 : Nat) : Int) = 0) := by omega
            have s1 : ¬ (((r3 + 1 + 1 + 1 + 1 : Nat) : Int) = 1) := by omega
            have s2 : ¬ (((r3 + 1 + 1 + 1 + 1 : Nat) : Int) = 2) := by omega
            have s3 : ¬ (((r3 + 1 + 1 + 1 + 1 : Nat) : Int) = 3) := by omega
            generalize ((r3 + 1 + 1 + 1 + 1 : Nat) : Int) = rr at *
            have u0 := D3.out.res.c0
            have u1 := D3.out.res.c1
            have v0 := D3.out.res.fz 0 (by decide)
            have v1 := D3.out.res.fz 1 (by decide)
            have d0 := D3.out.box.c0
            have d1 := D3.out.box.c1
            have z0 : _ = some (Value.slice a1 n1 c1) := ((D3.out.res.set0 (.slice a1 n1 c1)).set1 (.slice a2 n2 c2)).c0
            have z1 : _ = some (Value.slice a2 n2 c2) := ((D3.out.res.set0 (.slice a1 n1 c1)).set1 (.slice a2 n2 c2)).c1
            go_wp2
            exact bodyPost_ret (v := .agg #[.slice a1 n1 c1, .slice a2 n2 c2]) (by simp [results, Tryz.results91, go_sem, z0, z1]) rfl (D3.out.done (by omega) (by omega) (by omega))
end Go.Proofs.YtcaknhoaoodbfaaGreatDoor
