/- impl.pidfItems. -/
import Derived.Test.YtcaknhoaoodbfaaGreatDoorGP21
import Derived.Test.YtcaknhoaoodbfaaGreatDoorGP16
import Derived.Test.YtcaknhoaoodbfaaGreatDoorGP11
import Derived.Test.YtcaknhoaoodbfaaGreatDoorGP32
import Derived.Test.YtcaknhoaoodbfaaGreatDoorGP3
namespace Go.Proofs.YtcaknhoaoodbfaaGreatDoor
open Go.ChangeShapes Go.WideShapes Go.ChangeAt Go.RowKit
set_option linter.unusedVariables false
set_option linter.unusedSimpArgs false
theorem below_al8p {w W : World} (h : Below w.heap.size w W) (x : Obj) : Below w.heap.size w (W.alloc x) := h.alloc h.size x
theorem alloc_keep8 {W : World} {p : Addr} {v : Value} (h : W.cell? p = some v) (x : Obj) : (W.alloc x).cell? p = some v := ((below1 W x).cell (World.block_lt_of_cell? _ _ h)).trans h
set_option maxRecDepth 100000 in
set_option maxHeartbeats 6400000 in
theorem pidfItems_any (q : Pr) (a : Option Addr) (n c : Nat) (w : World) (hs : q.sender.size ≤ 1000) (hk : q.kind = 0 ∨ q.kind = 1) (hsh : q.shown = 0 ∨ q.shown = 1 ∨ q.shown = 3) (hT : Pows w) :
    Calls Tryz.prog 84 #[.agg #[.int .i64 q.kind, .string q.sender, .string q.goal, .int .i64 q.shown, .string q.status, .int .i64 q.prio, .slice a n c]] w (GrewRes w (pidfL q)) := by
  obtain ⟨i0, hi, hz0, hi1, hz2⟩ := info_parts itemInfo
  have HX : Hid (∀ x, ((headP8 q.sender q.kind ++ actsP8 q.shown) ++ contP8 q.sender q.prio) ++ noteP8 q.status = x → pidfL q = x) := Lib.hid fun x e => e
  have KS := Lib.hid (fun W hW => shareOf_any q.prio W hW)
  have HPW := Lib.hid (fun W (hb : Below w.heap.size w W) => hT.below hb)
  have hsx : (shareText (thouVal q.prio)).size ≤ 100 := by rw [shareText_thou]; exact shareT_size _ (by have := thouVal_in q.prio; omega)
  have HCO : Hid (∀ x, (if q.prio = 0 then [] else [elemI 2 pidfSp contNm [⟨prioKey, shareText (thouVal q.prio)⟩], textI 3 (xmppP ++ q.sender)]) = x → contP8 q.sender q.prio = x) := Lib.hid fun x e => e
  have HAC : Hid ((q.shown = 0 ∧ actsP8 q.shown = []) ∨ ∃ (ms : Nat) (aw : ByteArray), q.shown = (ms : Int) ∧ ms < 4 ∧ (q.shown != 0) = true ∧ actsP8 q.shown = [⟨2, ⟨#[]⟩, ⟨#[117, 114, 110, 58, 105, 101, 116, 102, 58, 112, 97, 114, 97, 109, 115, 58, 120, 109, 108, 58, 110, 115, 58, 112, 105, 100, 102, 58, 114, 112, 105, 100]⟩, ⟨#[97, 99, 116, 105, 118, 105, 116, 105, 101, 115]⟩, []⟩, ⟨3, ⟨#[]⟩, ⟨#[117, 114, 110, 58, 105, 101, 116, 102, 58, 112, 97, 114, 97, 109, 115, 58, 120, 109, 108, 58, 110, 115, 58, 112, 105, 100, 102, 58, 114, 112, 105, 100]⟩, aw, []⟩] ∧ ∀ (W : World) (r : Nat), W.cell? ⟨r, 1, none⟩ = some (.string ⟨#[97, 119, 97, 121]⟩) → W.cell? ⟨r, 3, none⟩ = some (.string ⟨#[98, 117, 115, 121]⟩) → W.cell? ⟨r, ms, none⟩ = some (.string aw)) := Lib.hid (by
    unfold actsP8 actW
    rcases hsh with h | h | h
    · exact .inl ⟨h, by rw [if_pos h]⟩
    · exact .inr ⟨1, awayNm, h, by decide, by rw [h]; rfl, by rw [h]; rfl, fun W r h1 h3 => h1⟩
    · exact .inr ⟨3, busyNm, h, by decide, by rw [h]; rfl, by rw [h]; rfl, fun W r h1 h3 => h3⟩)
  clear hT hsh
  unfold GrewRes
  generalize pidfL q = TL at HX ⊢
  obtain ⟨qk, qf, qt, qs, qu, qp, qm⟩ := q
  dsimp only at hs hk HX KS hsx HCO HAC ⊢
  generalize shareText (thouVal qp) = sx at KS hsx HCO
  generalize actsP8 qs = AL at HX HAC
  generalize contP8 qf qp = CL at HX HCO
  have hcc : ¬ (9223372036854775807 < 5 + qf.size) := by omega
  have HPF : Hid ((⟨#[112, 114, 101, 115, 58]⟩ ++ qf).size ≤ 9223372036854775807) := Lib.hid (by rw [ByteArray.size_append]; have : (⟨#[112, 114, 101, 115, 58]⟩ : ByteArray).size = 5 := rfl; omega)
  obtain ⟨mk, rfl⟩ : ∃ mk : Nat, qk = (mk : Int) := ⟨qk.toNat, by omega⟩
  have hmk : mk < 2 := by omega
  have hmk2 : (mk : Int) < (2 : Int) := by omega
  have hmk0 : (0 : Int) ≤ (mk : Int) := by omega
  have HROW : Hid (∀ (W : World) (r : Nat), W.cell? ⟨r, 0, none⟩ = some (.string ⟨#[111, 112, 101, 110]⟩) → W.cell? ⟨r, 1, none⟩ = some (.string ⟨#[99, 108, 111, 115, 101, 100]⟩) → W.cell? ⟨r, mk, none⟩ = some (.string (basicW (mk : Int)))) := Lib.hid fun W r h0 h1 => by
    match mk, hmk with
    | 0, _ => exact h0
    | 1, _ => exact h1
  clear hk
  have HH : Hid (headW qf (basicW (mk : Int)) = headP8 qf (mk : Int)) := Lib.hid rfl
  generalize basicW (mk : Int) = bw at HROW HH
  generalize headP8 qf (mk : Int) = HL at HX HH
  have hbx := below1 w (.cells #[.int .i64 (mk : Int), .string qf, .string qt, .int .i64 qs, .string qu, .int .i64 qp, .slice a n c] 26)
  have hVs : (w.alloc (.cells #[.int .i64 (mk : Int), .string qf, .string qt, .int .i64 qs, .string qu, .int .i64 qp, .slice a n c] 26)).heap.size = w.heap.size + 1 := by simp
  have e0 : (w.alloc (.cells #[.int .i64 (mk : Int), .string qf, .string qt, .int .i64 qs, .string qu, .int .i64 qp, .slice a n c] 26)).cell? ⟨w.heap.size, 0, none⟩ = some (.int .i64 (mk : Int)) := by simp
  have e1 : (w.alloc (.cells #[.int .i64 (mk : Int), .string qf, .string qt, .int .i64 qs, .string qu, .int .i64 qp, .slice a n c] 26)).cell? ⟨w.heap.size, 1, none⟩ = some (.string qf) := by simp
  have e3 : (w.alloc (.cells #[.int .i64 (mk : Int), .string qf, .string qt, .int .i64 qs, .string qu, .int .i64 qp, .slice a n c] 26)).cell? ⟨w.heap.size, 3, none⟩ = some (.int .i64 qs) := by simp
  have e4 : (w.alloc (.cells #[.int .i64 (mk : Int), .string qf, .string qt, .int .i64 qs, .string qu, .int .i64 qp, .slice a n c] 26)).cell? ⟨w.heap.size, 4, none⟩ = some (.string qu) := by simp
  have e5 : (w.alloc (.cells #[.int .i64 (mk : Int), .string qf, .string qt, .int .i64 qs, .string qu, .int .i64 qp, .slice a n c] 26)).cell? ⟨w.heap.size, 5, none⟩ = some (.int .i64 qp) := by simp
  go_enter Tryz.func84, Tryz.ntmps84
  go_upto_region 1 with fail
  generalize w.alloc (.cells #[.int .i64 (mk : Int), .string qf, .string qt, .int .i64 qs, .string qu, .int .i64 qp, .slice a n c] 26) = V at hbx hVs e0 e1 e3 e4 e5 ⊢
  have hlt : w.heap.size < V.heap.size := by omega
  have HC : Hid (∀ W, Below V.heap.size V W → (W.cell? ⟨w.heap.size, 0, none⟩ = some (.int .i64 (mk : Int)) ∧ W.cell? ⟨w.heap.size, 1, none⟩ = some (.string qf))) := Lib.hid fun W hb => ⟨(hb.cell (by exact hlt)).trans e0, (hb.cell (by exact hlt)).trans e1⟩
  have HBU : Hid (Below V.heap.size V V.drew) := Lib.hid (Below.refl _ _).drew
  go_cut [3] (fun v wx => ∃ (x : Option Addr) (m q : Nat) (A : Nat → Option Addr) (N C : Nat → Nat), v = .slice x m q ∧ GrowIts wx V.heap.size (.slice x m q) m HL A N C ∧ Below V.heap.size V wx ∧ m ≤ 5)
  case first =>
    refine wp_region_noPanic ?_
    refine wp_region_held_drew (S := (fun W => W.cell? ⟨w.heap.size, 0, none⟩ = some (.int .i64 (mk : Int)) ∧ W.cell? ⟨w.heap.size, 1, none⟩ = some (.string qf))) (by kernel_rfl) ?_ (fun hHeld => ?_)
    · exact HC.out _ (Below.refl _ _).drew
    generalize V.drew = U at HBU hHeld ⊢
    refine wpAnyH_take (i := 0) (oi := _) (v := ?_) rfl (by kernel_rfl) (by kernel_rfl) (by kernel_rfl) (fun _ _ _ h => h) (Or.inl ⟨by rfl, ?_⟩) (by with_reducible assumption) ?_
    rotate_left
    · intro w hSw
      (try dsimp only at hSw)
      go_simp
      all_goals (with_reducible rfl)
    try simp only [Act.put, List.getElem_toArray, List.getElem_cons_zero, List.getElem_cons_succ, List.setIfInBounds_toArray, List.set_cons_zero, List.set_cons_succ]
    refine wpAnyH_take (i := 1) (oi := _) (v := ?_) rfl (by kernel_rfl) (by kernel_rfl) (by kernel_rfl) (fun _ _ _ h => h) (Or.inl ⟨by rfl, ?_⟩) (by with_reducible assumption) ?_
    rotate_left
    · intro w hSw
      (try dsimp only at hSw)
      go_simp
      all_goals (with_reducible rfl)
    try simp only [Act.put, List.getElem_toArray, List.getElem_cons_zero, List.getElem_cons_succ, List.setIfInBounds_toArray, List.set_cons_zero, List.set_cons_succ]
    refine wpAnyH_take (i := 2) (oi := _) (v := ?_) rfl (by kernel_rfl) (by kernel_rfl) (by kernel_rfl) (fun _ _ _ h => h) (Or.inl ⟨by rfl, ?_⟩) (by with_reducible assumption) ?_
    rotate_left
    · intro w hSw
      (try dsimp only at hSw)
      go_simp
      (try rw [if_neg (by omega)])
      all_goals (with_reducible rfl)
    try simp only [Act.put, List.getElem_toArray, List.getElem_cons_zero, List.getElem_cons_succ, List.setIfInBounds_toArray, List.set_cons_zero, List.set_cons_succ]
    refine wpAnyH_take (i := 3) (oi := _) (v := ?_) rfl (by kernel_rfl) (by kernel_rfl) (by kernel_rfl) (fun _ _ _ h => h) (Or.inl ⟨by rfl, ?_⟩) (by with_reducible assumption) ?_
    rotate_left
    · intro w hSw
      (try dsimp only at hSw)
      go_simp
      all_goals (with_reducible rfl)
    try simp only [Act.put, List.getElem_toArray, List.getElem_cons_zero, List.getElem_cons_succ, List.setIfInBounds_toArray, List.set_cons_zero, List.set_cons_succ]
    refine wpAnyH_take (i := 6) (oi := _) (v := ?_) rfl (by kernel_rfl) (by kernel_rfl) (by kernel_rfl) (fun _ _ _ h => h) (Or.inl ⟨by rfl, ?_⟩) (by with_reducible assumption) ?_
    rotate_left
    · intro w hSw
      (try dsimp only at hSw)
      go_simp
      all_goals (with_reducible rfl)
    try simp only [Act.put, List.getElem_toArray, List.getElem_cons_zero, List.getElem_cons_succ, List.setIfInBounds_toArray, List.set_cons_zero, List.set_cons_succ]
    refine wpAnyH_take (i := 12) (oi := _) (v := ?_) rfl (by kernel_rfl) (by kernel_rfl) (by kernel_rfl) (fun _ _ _ h => h) (Or.inl ⟨by rfl, ?_⟩) (by with_reducible assumption) ?_
    rotate_left
    · intro w hSw
      (try dsimp only at hSw)
      go_simp
      all_goals (with_reducible rfl)
    try simp only [Act.put, List.getElem_toArray, List.getElem_cons_zero, List.getElem_cons_succ, List.setIfInBounds_toArray, List.set_cons_zero, List.set_cons_succ]
    refine wpAnyH_take (i := 13) (oi := _) (v := ?_) rfl (by kernel_rfl) (by kernel_rfl) (by kernel_rfl) (fun _ _ _ h => h) (Or.inl ⟨by rfl, ?_⟩) (by with_reducible assumption) ?_
    rotate_left
    · intro w hSw
      (try dsimp only at hSw)
      go_simp
      all_goals (with_reducible rfl)
    try simp only [Act.put, List.getElem_toArray, List.getElem_cons_zero, List.getElem_cons_succ, List.setIfInBounds_toArray, List.set_cons_zero, List.set_cons_succ]
    refine wpAnyH_ready (rs := [4, 7]) (by kernel_rfl) (by simp) ?_
    refine AllReadyH.cons (o := _) rfl (fun K hK => ?_) (AllReadyH.cons (o := _) rfl (fun K hK => ?_) AllReadyH.nil)
    · go_simp
      refine hK.out _ _ ?_ (fun hHeld => ?_)
      · exact HC.out _ (HBU.out.alloc HBU.out.size _)
      clear hK K
      try simp only [Act.put, List.getElem_toArray, List.getElem_cons_zero, List.getElem_cons_succ, List.setIfInBounds_toArray, List.set_cons_zero, List.set_cons_succ]
      refine wpAnyH_ready (rs := [5, 7]) (by kernel_rfl) (by simp) ?_
      refine AllReadyH.cons (o := _) rfl (fun K hK => ?_) (AllReadyH.cons (o := _) rfl (fun K hK => ?_) AllReadyH.nil)
      · go_simp
        refine (pidfElement_any _ _ _ _ _ _).mono ?_
        rintro e w1 ⟨rfl, hq1⟩
        have HB1 := Lib.hid (HBU.out.trans ((below_then (below1 U (.cells #[.string ⟨#[101, 110, 116, 105, 116, 121]⟩, .string (⟨#[112, 114, 101, 115, 58]⟩ ++ qf)] 65)) hq1).mono HBU.out.size))
        go_wp2_with fail
        refine hK.out _ _ ?_ (fun hHeld => ?_)
        · exact HC.out _ HB1.out
        clear hK K
        try simp only [Act.put, List.getElem_toArray, List.getElem_cons_zero, List.getElem_cons_succ, List.setIfInBounds_toArray, List.set_cons_zero, List.set_cons_succ]
        refine wpAnyH_ready (rs := [7]) (by kernel_rfl) (by simp) ?_
        refine AllReadyH.cons (o := _) rfl (fun K hK => ?_) AllReadyH.nil
        go_simp
        refine hK.out _ _ ?_ (fun hHeld => ?_)
        · exact HC.out _ (HB1.out.alloc HB1.out.size _)
        clear hK K
        try simp only [Act.put, List.getElem_toArray, List.getElem_cons_zero, List.getElem_cons_succ, List.setIfInBounds_toArray, List.set_cons_zero, List.set_cons_succ]
        refine wpAnyH_ready (rs := [8]) (by kernel_rfl) (by simp) ?_
        refine AllReadyH.cons (o := _) rfl (fun K hK => ?_) AllReadyH.nil
        go_simp
        refine (pidfElement_any _ _ _ _ _ _).mono ?_
        rintro e w4 ⟨rfl, hq4⟩
        have hqa := below_then (below1 U (.cells #[.string ⟨#[101, 110, 116, 105, 116, 121]⟩, .string (⟨#[112, 114, 101, 115, 58]⟩ ++ qf)] 65)) hq1
        have hqb := below_then hqa (below_then (below1 w1 (.cells #[.string ⟨#[105, 100]⟩, .string ⟨#[116]⟩] 65)) hq4)
        have HB4 := Lib.hid (HBU.out.trans (hqb.mono HBU.out.size))
        go_wp2_with fail
        refine hK.out _ _ ?_ (fun hHeld => ?_)
        · exact HC.out _ HB4.out
        clear hK K
        try simp only [Act.put, List.getElem_toArray, List.getElem_cons_zero, List.getElem_cons_succ, List.setIfInBounds_toArray, List.set_cons_zero, List.set_cons_succ]
        refine wpAnyH_ready (rs := [9]) (by kernel_rfl) (by simp) ?_
        refine AllReadyH.cons (o := _) rfl (fun K hK => ?_) AllReadyH.nil
        go_simp
        refine (pidfElement_any _ _ _ _ _ _).mono ?_
        rintro e w5 ⟨rfl, hq5⟩
        have HB5 := Lib.hid (HB4.out.trans (hq5.mono HB4.out.size))
        go_wp2_with fail
        refine hK.out _ _ ?_ (fun hHeld => ?_)
        · exact HC.out _ HB5.out
        clear hK K
        try simp only [Act.put, List.getElem_toArray, List.getElem_cons_zero, List.getElem_cons_succ, List.setIfInBounds_toArray, List.set_cons_zero, List.set_cons_succ]
        refine wpAnyH_ready (rs := [10]) (by kernel_rfl) (by simp) ?_
        refine AllReadyH.cons (o := _) rfl (fun K hK => ?_) AllReadyH.nil
        go_simp
        refine (pidfElement_any _ _ _ _ _ _).mono ?_
        rintro e w6 ⟨rfl, hq6⟩
        have HB6 := Lib.hid (HB5.out.trans (hq6.mono HB5.out.size))
        go_wp2_with fail
        refine hK.out _ _ ?_ (fun hHeld => ?_)
        · exact HC.out _ HB6.out
        clear hK K
        try simp only [Act.put, List.getElem_toArray, List.getElem_cons_zero, List.getElem_cons_succ, List.setIfInBounds_toArray, List.set_cons_zero, List.set_cons_succ]
        refine wpAnyH_ready (rs := [11]) (by kernel_rfl) (by simp) ?_
        refine AllReadyH.cons (o := _) rfl (fun K hK => ?_) AllReadyH.nil
        go_simp
        refine (basicWords_any _).mono ?_
        rintro e w7 ⟨rfl, hq7, hr0, hr1⟩
        have HB7 := Lib.hid (HB6.out.trans (hq7.mono HB6.out.size))
        have hrow := HROW.out _ _ hr0 hr1
        go_wp2_with fail
        refine hK.out _ _ ?_ (fun hHeld => ?_)
        · exact HC.out _ HB7.out
        clear hK K
        try simp only [Act.put, List.getElem_toArray, List.getElem_cons_zero, List.getElem_cons_succ, List.setIfInBounds_toArray, List.set_cons_zero, List.set_cons_succ]
        refine wpAnyH_mono (S' := (fun W => (W.cell? ⟨w.heap.size, 0, none⟩ = some (.int .i64 (mk : Int)) ∧ W.cell? ⟨w.heap.size, 1, none⟩ = some (.string qf)) ∧ W.cell? ⟨w6.heap.size, mk, none⟩ = some (.string bw))) (fun _ h => h.1) _ _ _ _ ?_
        have hHeld2 := And.intro hHeld hrow
        refine wpAnyH_take (i := 14) (oi := _) (v := ?_) rfl (by kernel_rfl) (by kernel_rfl) (by kernel_rfl) (fun _ _ _ h => h) (Or.inl ⟨by rfl, ?_⟩) (by with_reducible assumption) ?_
        rotate_left
        · intro w hSw
          (try dsimp only at hSw)
          go_simp
          all_goals (with_reducible rfl)
        try simp only [Act.put, List.getElem_toArray, List.getElem_cons_zero, List.getElem_cons_succ, List.setIfInBounds_toArray, List.set_cons_zero, List.set_cons_succ]
        refine wpAnyH_take (i := 15) (oi := _) (v := ?_) rfl (by kernel_rfl) (by kernel_rfl) (by kernel_rfl) (fun _ _ _ h => h) (Or.inl ⟨by rfl, ?_⟩) (by with_reducible assumption) ?_
        rotate_left
        · intro w hSw
          (try dsimp only at hSw)
          go_simp
          all_goals (with_reducible rfl)
        try simp only [Act.put, List.getElem_toArray, List.getElem_cons_zero, List.getElem_cons_succ, List.setIfInBounds_toArray, List.set_cons_zero, List.set_cons_succ]
        refine wpAnyH_take (i := 16) (oi := _) (v := ?_) rfl (by kernel_rfl) (by kernel_rfl) (by kernel_rfl) (fun _ _ _ h => h) (Or.inl ⟨by rfl, ?_⟩) (by with_reducible assumption) ?_
        rotate_left
        · intro w hSw
          (try dsimp only at hSw)
          go_simp
          all_goals (with_reducible rfl)
        try simp only [Act.put, List.getElem_toArray, List.getElem_cons_zero, List.getElem_cons_succ, List.setIfInBounds_toArray, List.set_cons_zero, List.set_cons_succ]
        refine wpAnyH_ready (rs := [17]) (by kernel_rfl) (by simp) ?_
        refine AllReadyH.cons (o := _) rfl (fun K hK => ?_) AllReadyH.nil
        go_simp
        refine hK.out _ _ ?_ (fun hHeld => ?_)
        · exact ⟨HC.out _ (HB7.out.alloc HB7.out.size _), alloc_keep8 hrow _⟩
        clear hK K
        try simp only [Act.put, List.getElem_toArray, List.getElem_cons_zero, List.getElem_cons_succ, List.setIfInBounds_toArray, List.set_cons_zero, List.set_cons_succ]
        refine wpAnyH_take (i := 18) (oi := _) (v := ?_) rfl (by kernel_rfl) (by kernel_rfl) (by kernel_rfl) (fun _ _ _ h => h) (Or.inl ⟨by rfl, ?_⟩) (by with_reducible assumption) ?_
        rotate_left
        · intro w hSw
          (try dsimp only at hSw)
          go_simp
          all_goals (with_reducible rfl)
        try simp only [Act.put, List.getElem_toArray, List.getElem_cons_zero, List.getElem_cons_succ, List.setIfInBounds_toArray, List.set_cons_zero, List.set_cons_succ]
        refine wpAnyH_done (by kernel_rfl) ?_ _
        refine NoPanic.normal ?_
        have hq47 := below_then (below_then hq5 hq6) hq7
        have O1 := ((lit_ats1 U V.heap.size HBU.out.size ⟨#[101, 110, 116, 105, 116, 121]⟩ (⟨#[112, 114, 101, 115, 58]⟩ ++ qf) (by decide) HPF.out)).later2 (below_then hq1 (below_then (below_then (below1 w1 (.cells #[.string ⟨#[105, 100]⟩, .string ⟨#[116]⟩] 65)) hq4) hq47))
        have O2 := ((lit_ats1 w1 V.heap.size HB1.out.size ⟨#[105, 100]⟩ ⟨#[116]⟩ (by decide) (by decide))).later2 (below_then hq4 hq47)
        have hne : U.heap.size ≠ w1.heap.size := by have := hq1.size; simp at this; omega
        have HB8 := Lib.hid (HB7.out.alloc HB7.out.size (.cells #[.int .i64 0, .string ⟨#[]⟩, .string ⟨#[117, 114, 110, 58, 105, 101, 116, 102, 58, 112, 97, 114, 97, 109, 115, 58, 120, 109, 108, 58, 110, 115, 58, 112, 105, 100, 102]⟩, .string ⟨#[112, 114, 101, 115, 101, 110, 99, 101]⟩, .slice (some ⟨U.heap.size, 0, none⟩) 1 1, .int .i64 1, .string ⟨#[]⟩, .string ⟨#[117, 114, 110, 58, 105, 101, 116, 102, 58, 112, 97, 114, 97, 109, 115, 58, 120, 109, 108, 58, 110, 115, 58, 112, 105, 100, 102]⟩, .string ⟨#[116, 117, 112, 108, 101]⟩, .slice (some ⟨w1.heap.size, 0, none⟩) 1 1, .int .i64 2, .string ⟨#[]⟩, .string ⟨#[117, 114, 110, 58, 105, 101, 116, 102, 58, 112, 97, 114, 97, 109, 115, 58, 120, 109, 108, 58, 110, 115, 58, 112, 105, 100, 102]⟩, .string ⟨#[115, 116, 97, 116, 117, 115]⟩, .slice none 0 0, .int .i64 3, .string ⟨#[]⟩, .string ⟨#[117, 114, 110, 58, 105, 101, 116, 102, 58, 112, 97, 114, 97, 109, 115, 58, 120, 109, 108, 58, 110, 115, 58, 112, 105, 100, 102]⟩, .string ⟨#[98, 97, 115, 105, 99]⟩, .slice none 0 0, .int .i64 4, .string bw, .string ⟨#[]⟩, .string ⟨#[]⟩, .slice none 0 0] 67))
        have G1 := Lib.hid (grow_head (B := V.heap.size) qf bw (U.heap.size) (w1.heap.size) HB7.out.size O1 O2 hne)
        clear O1 O2
        go_wp2_with fail
        go_meet
        exact ⟨_, _, _, _, _, _, rfl, by rw [← HH.out]; exact G1.out, HB8.out, by omega⟩
      · go_simp
        refine hK.out _ _ ?_ (fun hHeld => ?_)
        · exact HC.out _ ((HBU.out.alloc HBU.out.size _).alloc (by have := HBU.out.size; simp; omega) _)
        clear hK K
        try simp only [Act.put, List.getElem_toArray, List.getElem_cons_zero, List.getElem_cons_succ, List.setIfInBounds_toArray, List.set_cons_zero, List.set_cons_succ]
        refine wpAnyH_ready (rs := [5]) (by kernel_rfl) (by simp) ?_
        refine AllReadyH.cons (o := _) rfl (fun K hK => ?_) AllReadyH.nil
        go_simp
        refine (pidfElement_any _ _ _ _ _ _).mono ?_
        rintro e w1 ⟨rfl, hq1⟩
        have HB1 := Lib.hid (HBU.out.trans ((below_then (below2 U (.cells #[.string ⟨#[101, 110, 116, 105, 116, 121]⟩, .string (⟨#[112, 114, 101, 115, 58]⟩ ++ qf)] 65) (.cells #[.string ⟨#[105, 100]⟩, .string ⟨#[116]⟩] 65)) hq1).mono HBU.out.size))
        go_wp2_with fail
        refine hK.out _ _ ?_ (fun hHeld => ?_)
        · exact HC.out _ HB1.out
        clear hK K
        try simp only [Act.put, List.getElem_toArray, List.getElem_cons_zero, List.getElem_cons_succ, List.setIfInBounds_toArray, List.set_cons_zero, List.set_cons_succ]
        refine wpAnyH_ready (rs := [8]) (by kernel_rfl) (by simp) ?_
        refine AllReadyH.cons (o := _) rfl (fun K hK => ?_) AllReadyH.nil
        go_simp
        refine (pidfElement_any _ _ _ _ _ _).mono ?_
        rintro e w4 ⟨rfl, hq4⟩
        have hqb := below_then (below_then (below2 U (.cells #[.string ⟨#[101, 110, 116, 105, 116, 121]⟩, .string (⟨#[112, 114, 101, 115, 58]⟩ ++ qf)] 65) (.cells #[.string ⟨#[105, 100]⟩, .string ⟨#[116]⟩] 65)) hq1) hq4
        have HB4 := Lib.hid (HBU.out.trans (hqb.mono HBU.out.size))
        go_wp2_with fail
        refine hK.out _ _ ?_ (fun hHeld => ?_)
        · exact HC.out _ HB4.out
        clear hK K
        try simp only [Act.put, List.getElem_toArray, List.getElem_cons_zero, List.getElem_cons_succ, List.setIfInBounds_toArray, List.set_cons_zero, List.set_cons_succ]
        refine wpAnyH_ready (rs := [9]) (by kernel_rfl) (by simp) ?_
        refine AllReadyH.cons (o := _) rfl (fun K hK => ?_) AllReadyH.nil
        go_simp
        refine (pidfElement_any _ _ _ _ _ _).mono ?_
        rintro e w5 ⟨rfl, hq5⟩
        have HB5 := Lib.hid (HB4.out.trans (hq5.mono HB4.out.size))
        go_wp2_with fail
        refine hK.out _ _ ?_ (fun hHeld => ?_)
        · exact HC.out _ HB5.out
        clear hK K
        try simp only [Act.put, List.getElem_toArray, List.getElem_cons_zero, List.getElem_cons_succ, List.setIfInBounds_toArray, List.set_cons_zero, List.set_cons_succ]
        refine wpAnyH_ready (rs := [10]) (by kernel_rfl) (by simp) ?_
        refine AllReadyH.cons (o := _) rfl (fun K hK => ?_) AllReadyH.nil
        go_simp
        refine (pidfElement_any _ _ _ _ _ _).mono ?_
        rintro e w6 ⟨rfl, hq6⟩
        have HB6 := Lib.hid (HB5.out.trans (hq6.mono HB5.out.size))
        go_wp2_with fail
        refine hK.out _ _ ?_ (fun hHeld => ?_)
        · exact HC.out _ HB6.out
        clear hK K
        try simp only [Act.put, List.getElem_toArray, List.getElem_cons_zero, List.getElem_cons_succ, List.setIfInBounds_toArray, List.set_cons_zero, List.set_cons_succ]
        refine wpAnyH_ready (rs := [11]) (by kernel_rfl) (by simp) ?_
        refine AllReadyH.cons (o := _) rfl (fun K hK => ?_) AllReadyH.nil
        go_simp
        refine (basicWords_any _).mono ?_
        rintro e w7 ⟨rfl, hq7, hr0, hr1⟩
        have HB7 := Lib.hid (HB6.out.trans (hq7.mono HB6.out.size))
        have hrow := HROW.out _ _ hr0 hr1
        go_wp2_with fail
        refine hK.out _ _ ?_ (fun hHeld => ?_)
        · exact HC.out _ HB7.out
        clear hK K
        try simp only [Act.put, List.getElem_toArray, List.getElem_cons_zero, List.getElem_cons_succ, List.setIfInBounds_toArray, List.set_cons_zero, List.set_cons_succ]
        refine wpAnyH_mono (S' := (fun W => (W.cell? ⟨w.heap.size, 0, none⟩ = some (.int .i64 (mk : Int)) ∧ W.cell? ⟨w.heap.size, 1, none⟩ = some (.string qf)) ∧ W.cell? ⟨w6.heap.size, mk, none⟩ = some (.string bw))) (fun _ h => h.1) _ _ _ _ ?_
        have hHeld2 := And.intro hHeld hrow
        refine wpAnyH_take (i := 14) (oi := _) (v := ?_) rfl (by kernel_rfl) (by kernel_rfl) (by kernel_rfl) (fun _ _ _ h => h) (Or.inl ⟨by rfl, ?_⟩) (by with_reducible assumption) ?_
        rotate_left
        · intro w hSw
          (try dsimp only at hSw)
          go_simp
          all_goals (with_reducible rfl)
        try simp only [Act.put, List.getElem_toArray, List.getElem_cons_zero, List.getElem_cons_succ, List.setIfInBounds_toArray, List.set_cons_zero, List.set_cons_succ]
        refine wpAnyH_take (i := 15) (oi := _) (v := ?_) rfl (by kernel_rfl) (by kernel_rfl) (by kernel_rfl) (fun _ _ _ h => h) (Or.inl ⟨by rfl, ?_⟩) (by with_reducible assumption) ?_
        rotate_left
        · intro w hSw
          (try dsimp only at hSw)
          go_simp
          all_goals (with_reducible rfl)
        try simp only [Act.put, List.getElem_toArray, List.getElem_cons_zero, List.getElem_cons_succ, List.setIfInBounds_toArray, List.set_cons_zero, List.set_cons_succ]
        refine wpAnyH_take (i := 16) (oi := _) (v := ?_) rfl (by kernel_rfl) (by kernel_rfl) (by kernel_rfl) (fun _ _ _ h => h) (Or.inl ⟨by rfl, ?_⟩) (by with_reducible assumption) ?_
        rotate_left
        · intro w hSw
          (try dsimp only at hSw)
          go_simp
          all_goals (with_reducible rfl)
        try simp only [Act.put, List.getElem_toArray, List.getElem_cons_zero, List.getElem_cons_succ, List.setIfInBounds_toArray, List.set_cons_zero, List.set_cons_succ]
        refine wpAnyH_ready (rs := [17]) (by kernel_rfl) (by simp) ?_
        refine AllReadyH.cons (o := _) rfl (fun K hK => ?_) AllReadyH.nil
        go_simp
        refine hK.out _ _ ?_ (fun hHeld => ?_)
        · exact ⟨HC.out _ (HB7.out.alloc HB7.out.size _), alloc_keep8 hrow _⟩
        clear hK K
        try simp only [Act.put, List.getElem_toArray, List.getElem_cons_zero, List.getElem_cons_succ, List.setIfInBounds_toArray, List.set_cons_zero, List.set_cons_succ]
        refine wpAnyH_take (i := 18) (oi := _) (v := ?_) rfl (by kernel_rfl) (by kernel_rfl) (by kernel_rfl) (fun _ _ _ h => h) (Or.inl ⟨by rfl, ?_⟩) (by with_reducible assumption) ?_
        rotate_left
        · intro w hSw
          (try dsimp only at hSw)
          go_simp
          all_goals (with_reducible rfl)
        try simp only [Act.put, List.getElem_toArray, List.getElem_cons_zero, List.getElem_cons_succ, List.setIfInBounds_toArray, List.set_cons_zero, List.set_cons_succ]
        refine wpAnyH_done (by kernel_rfl) ?_ _
        refine NoPanic.normal ?_
        have hq47 := below_then (below_then hq5 hq6) hq7
        have O1 := ((lit_ats1 U V.heap.size HBU.out.size ⟨#[101, 110, 116, 105, 116, 121]⟩ (⟨#[112, 114, 101, 115, 58]⟩ ++ qf) (by decide) HPF.out)).later2 (below_then (below1 (U.alloc (.cells #[.string ⟨#[101, 110, 116, 105, 116, 121]⟩, .string (⟨#[112, 114, 101, 115, 58]⟩ ++ qf)] 65)) (.cells #[.string ⟨#[105, 100]⟩, .string ⟨#[116]⟩] 65)) (below_then hq1 (below_then hq4 hq47)))
        have O2 := ((lit_ats1 (U.alloc (.cells #[.string ⟨#[101, 110, 116, 105, 116, 121]⟩, .string (⟨#[112, 114, 101, 115, 58]⟩ ++ qf)] 65)) V.heap.size (by have := HBU.out.size; simp; omega) ⟨#[105, 100]⟩ ⟨#[116]⟩ (by decide) (by decide))).later2 (below_then hq1 (below_then hq4 hq47))
        rw [show (U.alloc (.cells #[.string ⟨#[101, 110, 116, 105, 116, 121]⟩, .string (⟨#[112, 114, 101, 115, 58]⟩ ++ qf)] 65)).heap.size = U.heap.size + 1 by simp] at O2
        have hne : U.heap.size ≠ U.heap.size + 1 := by omega
        have HB8 := Lib.hid (HB7.out.alloc HB7.out.size (.cells #[.int .i64 0, .string ⟨#[]⟩, .string ⟨#[117, 114, 110, 58, 105, 101, 116, 102, 58, 112, 97, 114, 97, 109, 115, 58, 120, 109, 108, 58, 110, 115, 58, 112, 105, 100, 102]⟩, .string ⟨#[112, 114, 101, 115, 101, 110, 99, 101]⟩, .slice (some ⟨U.heap.size, 0, none⟩) 1 1, .int .i64 1, .string ⟨#[]⟩, .string ⟨#[117, 114, 110, 58, 105, 101, 116, 102, 58, 112, 97, 114, 97, 109, 115, 58, 120, 109, 108, 58, 110, 115, 58, 112, 105, 100, 102]⟩, .string ⟨#[116, 117, 112, 108, 101]⟩, .slice (some ⟨U.heap.size + 1, 0, none⟩) 1 1, .int .i64 2, .string ⟨#[]⟩, .string ⟨#[117, 114, 110, 58, 105, 101, 116, 102, 58, 112, 97, 114, 97, 109, 115, 58, 120, 109, 108, 58, 110, 115, 58, 112, 105, 100, 102]⟩, .string ⟨#[115, 116, 97, 116, 117, 115]⟩, .slice none 0 0, .int .i64 3, .string ⟨#[]⟩, .string ⟨#[117, 114, 110, 58, 105, 101, 116, 102, 58, 112, 97, 114, 97, 109, 115, 58, 120, 109, 108, 58, 110, 115, 58, 112, 105, 100, 102]⟩, .string ⟨#[98, 97, 115, 105, 99]⟩, .slice none 0 0, .int .i64 4, .string bw, .string ⟨#[]⟩, .string ⟨#[]⟩, .slice none 0 0] 67))
        have G1 := Lib.hid (grow_head (B := V.heap.size) qf bw (U.heap.size) (U.heap.size + 1) HB7.out.size O1 O2 hne)
        clear O1 O2
        go_wp2_with fail
        go_meet
        exact ⟨_, _, _, _, _, _, rfl, by rw [← HH.out]; exact G1.out, HB8.out, by omega⟩
    · go_simp
      refine hK.out _ _ ?_ (fun hHeld => ?_)
      · exact HC.out _ (HBU.out.alloc HBU.out.size _)
      clear hK K
      try simp only [Act.put, List.getElem_toArray, List.getElem_cons_zero, List.getElem_cons_succ, List.setIfInBounds_toArray, List.set_cons_zero, List.set_cons_succ]
      refine wpAnyH_ready (rs := [4]) (by kernel_rfl) (by simp) ?_
      refine AllReadyH.cons (o := _) rfl (fun K hK => ?_) AllReadyH.nil
      go_simp
      refine hK.out _ _ ?_ (fun hHeld => ?_)
      · exact HC.out _ ((HBU.out.alloc HBU.out.size _).alloc (by have := HBU.out.size; simp; omega) _)
      clear hK K
      try simp only [Act.put, List.getElem_toArray, List.getElem_cons_zero, List.getElem_cons_succ, List.setIfInBounds_toArray, List.set_cons_zero, List.set_cons_succ]
      refine wpAnyH_ready (rs := [5]) (by kernel_rfl) (by simp) ?_
      refine AllReadyH.cons (o := _) rfl (fun K hK => ?_) AllReadyH.nil
      go_simp
      refine (pidfElement_any _ _ _ _ _ _).mono ?_
      rintro e w1 ⟨rfl, hq1⟩
      have HB1 := Lib.hid (HBU.out.trans ((below_then (below2 U (.cells #[.string ⟨#[105, 100]⟩, .string ⟨#[116]⟩] 65) (.cells #[.string ⟨#[101, 110, 116, 105, 116, 121]⟩, .string (⟨#[112, 114, 101, 115, 58]⟩ ++ qf)] 65)) hq1).mono HBU.out.size))
      go_wp2_with fail
      refine hK.out _ _ ?_ (fun hHeld => ?_)
      · exact HC.out _ HB1.out
      clear hK K
      try simp only [Act.put, List.getElem_toArray, List.getElem_cons_zero, List.getElem_cons_succ, List.setIfInBounds_toArray, List.set_cons_zero, List.set_cons_succ]
      refine wpAnyH_ready (rs := [8]) (by kernel_rfl) (by simp) ?_
      refine AllReadyH.cons (o := _) rfl (fun K hK => ?_) AllReadyH.nil
      go_simp
      refine (pidfElement_any _ _ _ _ _ _).mono ?_
      rintro e w4 ⟨rfl, hq4⟩
      have hqb := below_then (below_then (below2 U (.cells #[.string ⟨#[105, 100]⟩, .string ⟨#[116]⟩] 65) (.cells #[.string ⟨#[101, 110, 116, 105, 116, 121]⟩, .string (⟨#[112, 114, 101, 115, 58]⟩ ++ qf)] 65)) hq1) hq4
      have HB4 := Lib.hid (HBU.out.trans (hqb.mono HBU.out.size))
      go_wp2_with fail
      refine hK.out _ _ ?_ (fun hHeld => ?_)
      · exact HC.out _ HB4.out
      clear hK K
      try simp only [Act.put, List.getElem_toArray, List.getElem_cons_zero, List.getElem_cons_succ, List.setIfInBounds_toArray, List.set_cons_zero, List.set_cons_succ]
      refine wpAnyH_ready (rs := [9]) (by kernel_rfl) (by simp) ?_
      refine AllReadyH.cons (o := _) rfl (fun K hK => ?_) AllReadyH.nil
      go_simp
      refine (pidfElement_any _ _ _ _ _ _).mono ?_
      rintro e w5 ⟨rfl, hq5⟩
      have HB5 := Lib.hid (HB4.out.trans (hq5.mono HB4.out.size))
      go_wp2_with fail
      refine hK.out _ _ ?_ (fun hHeld => ?_)
      · exact HC.out _ HB5.out
      clear hK K
      try simp only [Act.put, List.getElem_toArray, List.getElem_cons_zero, List.getElem_cons_succ, List.setIfInBounds_toArray, List.set_cons_zero, List.set_cons_succ]
      refine wpAnyH_ready (rs := [10]) (by kernel_rfl) (by simp) ?_
      refine AllReadyH.cons (o := _) rfl (fun K hK => ?_) AllReadyH.nil
      go_simp
      refine (pidfElement_any _ _ _ _ _ _).mono ?_
      rintro e w6 ⟨rfl, hq6⟩
      have HB6 := Lib.hid (HB5.out.trans (hq6.mono HB5.out.size))
      go_wp2_with fail
      refine hK.out _ _ ?_ (fun hHeld => ?_)
      · exact HC.out _ HB6.out
      clear hK K
      try simp only [Act.put, List.getElem_toArray, List.getElem_cons_zero, List.getElem_cons_succ, List.setIfInBounds_toArray, List.set_cons_zero, List.set_cons_succ]
      refine wpAnyH_ready (rs := [11]) (by kernel_rfl) (by simp) ?_
      refine AllReadyH.cons (o := _) rfl (fun K hK => ?_) AllReadyH.nil
      go_simp
      refine (basicWords_any _).mono ?_
      rintro e w7 ⟨rfl, hq7, hr0, hr1⟩
      have HB7 := Lib.hid (HB6.out.trans (hq7.mono HB6.out.size))
      have hrow := HROW.out _ _ hr0 hr1
      go_wp2_with fail
      refine hK.out _ _ ?_ (fun hHeld => ?_)
      · exact HC.out _ HB7.out
      clear hK K
      try simp only [Act.put, List.getElem_toArray, List.getElem_cons_zero, List.getElem_cons_succ, List.setIfInBounds_toArray, List.set_cons_zero, List.set_cons_succ]
      refine wpAnyH_mono (S' := (fun W => (W.cell? ⟨w.heap.size, 0, none⟩ = some (.int .i64 (mk : Int)) ∧ W.cell? ⟨w.heap.size, 1, none⟩ = some (.string qf)) ∧ W.cell? ⟨w6.heap.size, mk, none⟩ = some (.string bw))) (fun _ h => h.1) _ _ _ _ ?_
      have hHeld2 := And.intro hHeld hrow
      refine wpAnyH_take (i := 14) (oi := _) (v := ?_) rfl (by kernel_rfl) (by kernel_rfl) (by kernel_rfl) (fun _ _ _ h => h) (Or.inl ⟨by rfl, ?_⟩) (by with_reducible assumption) ?_
      rotate_left
      · intro w hSw
        (try dsimp only at hSw)
        go_simp
        all_goals (with_reducible rfl)
      try simp only [Act.put, List.getElem_toArray, List.getElem_cons_zero, List.getElem_cons_succ, List.setIfInBounds_toArray, List.set_cons_zero, List.set_cons_succ]
      refine wpAnyH_take (i := 15) (oi := _) (v := ?_) rfl (by kernel_rfl) (by kernel_rfl) (by kernel_rfl) (fun _ _ _ h => h) (Or.inl ⟨by rfl, ?_⟩) (by with_reducible assumption) ?_
      rotate_left
      · intro w hSw
        (try dsimp only at hSw)
        go_simp
        all_goals (with_reducible rfl)
      try simp only [Act.put, List.getElem_toArray, List.getElem_cons_zero, List.getElem_cons_succ, List.setIfInBounds_toArray, List.set_cons_zero, List.set_cons_succ]
      refine wpAnyH_take (i := 16) (oi := _) (v := ?_) rfl (by kernel_rfl) (by kernel_rfl) (by kernel_rfl) (fun _ _ _ h => h) (Or.inl ⟨by rfl, ?_⟩) (by with_reducible assumption) ?_
      rotate_left
      · intro w hSw
        (try dsimp only at hSw)
        go_simp
        all_goals (with_reducible rfl)
      try simp only [Act.put, List.getElem_toArray, List.getElem_cons_zero, List.getElem_cons_succ, List.setIfInBounds_toArray, List.set_cons_zero, List.set_cons_succ]
      refine wpAnyH_ready (rs := [17]) (by kernel_rfl) (by simp) ?_
      refine AllReadyH.cons (o := _) rfl (fun K hK => ?_) AllReadyH.nil
      go_simp
      refine hK.out _ _ ?_ (fun hHeld => ?_)
      · exact ⟨HC.out _ (HB7.out.alloc HB7.out.size _), alloc_keep8 hrow _⟩
      clear hK K
      try simp only [Act.put, List.getElem_toArray, List.getElem_cons_zero, List.getElem_cons_succ, List.setIfInBounds_toArray, List.set_cons_zero, List.set_cons_succ]
      refine wpAnyH_take (i := 18) (oi := _) (v := ?_) rfl (by kernel_rfl) (by kernel_rfl) (by kernel_rfl) (fun _ _ _ h => h) (Or.inl ⟨by rfl, ?_⟩) (by with_reducible assumption) ?_
      rotate_left
      · intro w hSw
        (try dsimp only at hSw)
        go_simp
        all_goals (with_reducible rfl)
      try simp only [Act.put, List.getElem_toArray, List.getElem_cons_zero, List.getElem_cons_succ, List.setIfInBounds_toArray, List.set_cons_zero, List.set_cons_succ]
      refine wpAnyH_done (by kernel_rfl) ?_ _
      refine NoPanic.normal ?_
      have hq47 := below_then (below_then hq5 hq6) hq7
      have O2 := ((lit_ats1 U V.heap.size HBU.out.size ⟨#[105, 100]⟩ ⟨#[116]⟩ (by decide) (by decide))).later2 (below_then (below1 (U.alloc (.cells #[.string ⟨#[105, 100]⟩, .string ⟨#[116]⟩] 65)) (.cells #[.string ⟨#[101, 110, 116, 105, 116, 121]⟩, .string (⟨#[112, 114, 101, 115, 58]⟩ ++ qf)] 65)) (below_then hq1 (below_then hq4 hq47)))
      have O1 := ((lit_ats1 (U.alloc (.cells #[.string ⟨#[105, 100]⟩, .string ⟨#[116]⟩] 65)) V.heap.size (by have := HBU.out.size; simp; omega) ⟨#[101, 110, 116, 105, 116, 121]⟩ (⟨#[112, 114, 101, 115, 58]⟩ ++ qf) (by decide) HPF.out)).later2 (below_then hq1 (below_then hq4 hq47))
      rw [show (U.alloc (.cells #[.string ⟨#[105, 100]⟩, .string ⟨#[116]⟩] 65)).heap.size = U.heap.size + 1 by simp] at O1
      have hne : U.heap.size + 1 ≠ U.heap.size := by omega
      have HB8 := Lib.hid (HB7.out.alloc HB7.out.size (.cells #[.int .i64 0, .string ⟨#[]⟩, .string ⟨#[117, 114, 110, 58, 105, 101, 116, 102, 58, 112, 97, 114, 97, 109, 115, 58, 120, 109, 108, 58, 110, 115, 58, 112, 105, 100, 102]⟩, .string ⟨#[112, 114, 101, 115, 101, 110, 99, 101]⟩, .slice (some ⟨U.heap.size + 1, 0, none⟩) 1 1, .int .i64 1, .string ⟨#[]⟩, .string ⟨#[117, 114, 110, 58, 105, 101, 116, 102, 58, 112, 97, 114, 97, 109, 115, 58, 120, 109, 108, 58, 110, 115, 58, 112, 105, 100, 102]⟩, .string ⟨#[116, 117, 112, 108, 101]⟩, .slice (some ⟨U.heap.size, 0, none⟩) 1 1, .int .i64 2, .string ⟨#[]⟩, .string ⟨#[117, 114, 110, 58, 105, 101, 116, 102, 58, 112, 97, 114, 97, 109, 115, 58, 120, 109, 108, 58, 110, 115, 58, 112, 105, 100, 102]⟩, .string ⟨#[115, 116, 97, 116, 117, 115]⟩, .slice none 0 0, .int .i64 3, .string ⟨#[]⟩, .string ⟨#[117, 114, 110, 58, 105, 101, 116, 102, 58, 112, 97, 114, 97, 109, 115, 58, 120, 109, 108, 58, 110, 115, 58, 112, 105, 100, 102]⟩, .string ⟨#[98, 97, 115, 105, 99]⟩, .slice none 0 0, .int .i64 4, .string bw, .string ⟨#[]⟩, .string ⟨#[]⟩, .slice none 0 0] 67))
      have G1 := Lib.hid (grow_head (B := V.heap.size) qf bw (U.heap.size + 1) (U.heap.size) HB7.out.size O1 O2 hne)
      clear O1 O2
      go_wp2_with fail
      go_meet
      exact ⟨_, _, _, _, _, _, rfl, by rw [← HH.out]; exact G1.out, HB8.out, by omega⟩
  case rest =>
    obtain ⟨x2, m2, q2, A2, N2, C2, rfl, hg2, hb2, hm2⟩ := hcut
    have G2 := Lib.hid hg2
    have B2 := Lib.hid hb2
    have hz2' : V.heap.size ≤ wc.heap.size := B2.out.size
    have hbw : w.heap.size < wc.heap.size := by omega
    have d3 := (hb2.cell (p := ⟨w.heap.size, 3, none⟩) hlt).trans e3
    clear hg2 hb2 HBU HROW HH e0 HC
    go_upto_if 24 with fail
    go_cut [3] (fun v wx => ∃ (x : Option Addr) (m q : Nat) (A : Nat → Option Addr) (N C : Nat → Nat), v = .slice x m q ∧ GrowIts wx V.heap.size (.slice x m q) m (HL ++ AL) A N C ∧ Below V.heap.size V wx ∧ m ≤ 7)
    case first =>
      rcases HAC.out with ⟨rfl, e⟩ | ⟨ms, aw, rfl, hms, q1, e, hr⟩
      · have HE := Lib.hid e
        clear e
        go_wp2_with fail
        go_meet
        exact ⟨_, _, _, _, _, _, rfl, by rw [HE.out, List.append_nil]; exact G2.out, B2.out, by omega⟩
      · have HE := Lib.hid e
        clear e
        have hms4 : (ms : Int) < (4 : Int) := by omega
        have hms0 : (0 : Int) ≤ (ms : Int) := by omega
        go_wp2_with fail
        refine wp_region_noPanic ?_
        refine wp_region_held_drew (S := (fun W => W.cell? ⟨w.heap.size, 3, none⟩ = some (.int .i64 (ms : Int)))) (by kernel_rfl) ?_ (fun hHeld => ?_)
        · exact d3
        refine wpAnyH_take (i := 0) (oi := _) (v := ?_) rfl (by kernel_rfl) (by kernel_rfl) (by kernel_rfl) (fun _ _ _ h => h) (Or.inl ⟨by rfl, ?_⟩) (by with_reducible assumption) ?_
        rotate_left
        · intro w hSw
          (try dsimp only at hSw)
          go_simp
          all_goals (with_reducible rfl)
        try simp only [Act.put, List.getElem_toArray, List.getElem_cons_zero, List.getElem_cons_succ, List.setIfInBounds_toArray, List.set_cons_zero, List.set_cons_succ]
        refine wpAnyH_take (i := 1) (oi := _) (v := ?_) rfl (by kernel_rfl) (by kernel_rfl) (by kernel_rfl) (fun _ _ _ h => h) (Or.inl ⟨by rfl, ?_⟩) (by with_reducible assumption) ?_
        rotate_left
        · intro w hSw
          (try dsimp only at hSw)
          go_simp
          all_goals (with_reducible rfl)
        try simp only [Act.put, List.getElem_toArray, List.getElem_cons_zero, List.getElem_cons_succ, List.setIfInBounds_toArray, List.set_cons_zero, List.set_cons_succ]
        refine wpAnyH_take (i := 3) (oi := _) (v := ?_) rfl (by kernel_rfl) (by kernel_rfl) (by kernel_rfl) (fun _ _ _ h => h) (Or.inl ⟨by rfl, ?_⟩) (by with_reducible assumption) ?_
        rotate_left
        · intro w hSw
          (try dsimp only at hSw)
          go_simp
          all_goals (with_reducible rfl)
        try simp only [Act.put, List.getElem_toArray, List.getElem_cons_zero, List.getElem_cons_succ, List.setIfInBounds_toArray, List.set_cons_zero, List.set_cons_succ]
        refine wpAnyH_take (i := 4) (oi := _) (v := ?_) rfl (by kernel_rfl) (by kernel_rfl) (by kernel_rfl) (fun _ _ _ h => h) (Or.inl ⟨by rfl, ?_⟩) (by with_reducible assumption) ?_
        rotate_left
        · intro w hSw
          (try dsimp only at hSw)
          go_simp
          all_goals (with_reducible rfl)
        try simp only [Act.put, List.getElem_toArray, List.getElem_cons_zero, List.getElem_cons_succ, List.setIfInBounds_toArray, List.set_cons_zero, List.set_cons_succ]
        refine wpAnyH_ready (rs := [2]) (by kernel_rfl) (by simp) ?_
        refine AllReadyH.cons (o := _) rfl (fun K hK => ?_) AllReadyH.nil
        go_simp
        refine (activityWords_any _).mono ?_
        rintro e w5 ⟨rfl, hq5', hr1, hr3⟩
        have hq5 := below_of_drew hq5'
        have hrow := hr _ _ hr1 hr3
        have hd5 := (hq5.cell (p := ⟨w.heap.size, 3, none⟩) hbw).trans d3
        go_wp2_with fail
        refine hK.out _ _ ?_ (fun hHeld => ?_)
        · exact hd5
        clear hK K
        try simp only [Act.put, List.getElem_toArray, List.getElem_cons_zero, List.getElem_cons_succ, List.setIfInBounds_toArray, List.set_cons_zero, List.set_cons_succ]
        refine wpAnyH_mono (S' := (fun W => W.cell? ⟨w.heap.size, 3, none⟩ = some (.int .i64 (ms : Int)) ∧ W.cell? ⟨wc.heap.size, ms, none⟩ = some (.string aw))) (fun _ h => h.1) _ _ _ _ ?_
        have hHeld2 : w5.cell? ⟨w.heap.size, 3, none⟩ = some (.int .i64 (ms : Int)) ∧ w5.cell? ⟨wc.heap.size, ms, none⟩ = some (.string aw) := And.intro hHeld hrow
        refine wpAnyH_take (i := 5) (oi := _) (v := ?_) rfl (by kernel_rfl) (by kernel_rfl) (by kernel_rfl) (fun _ _ _ h => h) (Or.inl ⟨by rfl, ?_⟩) (by with_reducible assumption) ?_
        rotate_left
        · intro w hSw
          (try dsimp only at hSw)
          go_simp
          all_goals (with_reducible rfl)
        try simp only [Act.put, List.getElem_toArray, List.getElem_cons_zero, List.getElem_cons_succ, List.setIfInBounds_toArray, List.set_cons_zero, List.set_cons_succ]
        refine wpAnyH_take (i := 6) (oi := _) (v := ?_) rfl (by kernel_rfl) (by kernel_rfl) (by kernel_rfl) (fun _ _ _ h => h) (Or.inl ⟨by rfl, ?_⟩) (by with_reducible assumption) ?_
        rotate_left
        · intro w hSw
          (try dsimp only at hSw)
          go_simp
          all_goals (with_reducible rfl)
        try simp only [Act.put, List.getElem_toArray, List.getElem_cons_zero, List.getElem_cons_succ, List.setIfInBounds_toArray, List.set_cons_zero, List.set_cons_succ]
        refine wpAnyH_take (i := 7) (oi := _) (v := ?_) rfl (by kernel_rfl) (by kernel_rfl) (by kernel_rfl) (fun _ _ _ h => h) (Or.inl ⟨by rfl, ?_⟩) (by with_reducible assumption) ?_
        rotate_left
        · intro w hSw
          (try dsimp only at hSw)
          go_simp
          all_goals (with_reducible rfl)
        try simp only [Act.put, List.getElem_toArray, List.getElem_cons_zero, List.getElem_cons_succ, List.setIfInBounds_toArray, List.set_cons_zero, List.set_cons_succ]
        refine wpAnyH_ready (rs := [8]) (by kernel_rfl) (by simp) ?_
        refine AllReadyH.cons (o := _) rfl (fun K hK => ?_) AllReadyH.nil
        go_simp
        refine hK.out _ _ ?_ (fun hHeld => ?_)
        · exact ⟨alloc_keep8 hd5 _, alloc_keep8 hrow _⟩
        clear hK K
        try simp only [Act.put, List.getElem_toArray, List.getElem_cons_zero, List.getElem_cons_succ, List.setIfInBounds_toArray, List.set_cons_zero, List.set_cons_succ]
        have G5 := Lib.hid (G2.out.below hq5)
        have B5 := Lib.hid (B2.out.trans (hq5.mono B2.out.size))
        have hz5 : V.heap.size ≤ w5.heap.size := B5.out.size
        refine wpAnyH_ready (rs := [9]) (by kernel_rfl) (by simp) ?_
        refine AllReadyH.cons (o := _) rfl (fun K hK => ?_) AllReadyH.nil
        refine step_own_at (by rfl) _ _ 24 rfl 67 i0 (.agg #[.int .i64 0, .string ByteArray.empty, .string ByteArray.empty, .string ByteArray.empty, .slice none 0 0]) 5 80 Tryz.underlying24 hi hz0 hi1 hz2 rfl (by decide) V.heap.size _ m2 _ (by rfl) ((G5.out.row).alloc _) ⟨w5.heap.size, 0, none⟩ 2 2 [.int .i64 2, .string ⟨#[]⟩, .string ⟨#[117, 114, 110, 58, 105, 101, 116, 102, 58, 112, 97, 114, 97, 109, 115, 58, 120, 109, 108, 58, 110, 115, 58, 112, 105, 100, 102, 58, 114, 112, 105, 100]⟩, .string ⟨#[97, 99, 116, 105, 118, 105, 116, 105, 101, 115]⟩, .slice none 0 0, .int .i64 3, .string ⟨#[]⟩, .string ⟨#[117, 114, 110, 58, 105, 101, 116, 102, 58, 112, 97, 114, 97, 109, 115, 58, 120, 109, 108, 58, 110, 115, 58, 112, 105, 100, 102, 58, 114, 112, 105, 100]⟩, .string aw, .slice none 0 0] (by rfl) rfl (fun j u hj => itemCells2 w5 _ _ _ _ _ _ _ _ _ _ j u hj) (by intro v hv; simp at hv; rcases hv with rfl | rfl | rfl | rfl | rfl | rfl | rfl | rfl | rfl | rfl <;> rfl) (by unfold maxLen; omega) (by omega) (by simp; omega) ?_
        intro v' w6 hown hgr hat
        obtain ⟨a6, c6, rfl⟩ := owns_slice hown
        refine hK.out _ _ ?_ (fun hHeld => ?_)
        · exact ⟨hgr.cell (alloc_keep8 hd5 _) (fun e => absurd (show V.heap.size ≤ w.heap.size from (G2.out.row.lt _ e.symm).1) (by omega)), hgr.cell (alloc_keep8 hrow _) (fun e => absurd (show wc.heap.size < wc.heap.size from (G2.out.row.lt _ e.symm).2) (Nat.lt_irrefl _))⟩
        clear hK K
        try simp only [Act.put, List.getElem_toArray, List.getElem_cons_zero, List.getElem_cons_succ, List.setIfInBounds_toArray, List.set_cons_zero, List.set_cons_succ]
        refine wpAnyH_take (i := 10) (oi := _) (v := ?_) rfl (by kernel_rfl) (by kernel_rfl) (by kernel_rfl) (fun _ _ _ h => h) (Or.inl ⟨by rfl, ?_⟩) (by with_reducible assumption) ?_
        rotate_left
        · intro w hSw
          (try dsimp only at hSw)
          go_simp
          all_goals (with_reducible rfl)
        try simp only [Act.put, List.getElem_toArray, List.getElem_cons_zero, List.getElem_cons_succ, List.setIfInBounds_toArray, List.set_cons_zero, List.set_cons_succ]
        refine wpAnyH_done (by kernel_rfl) ?_ _
        refine NoPanic.normal ?_
        have G6 := Lib.hid (G5.out.two (x := ⟨2, ⟨#[]⟩, ⟨#[117, 114, 110, 58, 105, 101, 116, 102, 58, 112, 97, 114, 97, 109, 115, 58, 120, 109, 108, 58, 110, 115, 58, 112, 105, 100, 102, 58, 114, 112, 105, 100]⟩, ⟨#[97, 99, 116, 105, 118, 105, 116, 105, 101, 115]⟩, []⟩) (y := ⟨3, ⟨#[]⟩, ⟨#[117, 114, 110, 58, 105, 101, 116, 102, 58, 112, 97, 114, 97, 109, 115, 58, 120, 109, 108, 58, 110, 115, 58, 112, 105, 100, 102, 58, 114, 112, 105, 100]⟩, aw, []⟩) (below1 w5 (.cells #[.int .i64 2, .string ⟨#[]⟩, .string ⟨#[117, 114, 110, 58, 105, 101, 116, 102, 58, 112, 97, 114, 97, 109, 115, 58, 120, 109, 108, 58, 110, 115, 58, 112, 105, 100, 102, 58, 114, 112, 105, 100]⟩, .string ⟨#[97, 99, 116, 105, 118, 105, 116, 105, 101, 115]⟩, .slice none 0 0, .int .i64 3, .string ⟨#[]⟩, .string ⟨#[117, 114, 110, 58, 105, 101, 116, 102, 58, 112, 97, 114, 97, 109, 115, 58, 120, 109, 108, 58, 110, 115, 58, 112, 105, 100, 102, 58, 114, 112, 105, 100]⟩, .string aw, .slice none 0 0] 67)) rfl rfl hz5 hown hgr (hat.imp id fun e => ⟨w5.heap.size + 1, by simpa using e, by simp⟩))
        have B6 := Lib.hid (GrowIts.step B5.out G5.out (below1 w5 (.cells #[.int .i64 2, .string ⟨#[]⟩, .string ⟨#[117, 114, 110, 58, 105, 101, 116, 102, 58, 112, 97, 114, 97, 109, 115, 58, 120, 109, 108, 58, 110, 115, 58, 112, 105, 100, 102, 58, 114, 112, 105, 100]⟩, .string ⟨#[97, 99, 116, 105, 118, 105, 116, 105, 101, 115]⟩, .slice none 0 0, .int .i64 3, .string ⟨#[]⟩, .string ⟨#[117, 114, 110, 58, 105, 101, 116, 102, 58, 112, 97, 114, 97, 109, 115, 58, 120, 109, 108, 58, 110, 115, 58, 112, 105, 100, 102, 58, 114, 112, 105, 100]⟩, .string aw, .slice none 0 0] 67)) hgr)
        clear hown hgr hat
        go_wp2_with fail
        go_meet
        exact ⟨_, _, _, _, _, _, rfl, by rw [HE.out]; exact G6.out, B6.out, by omega⟩
    case rest =>
      obtain ⟨x7, m7, q7, A7, N7, C7, rfl, hg7, hb7, hm7⟩ := hcut
      have G7 := Lib.hid hg7
      have B7 := Lib.hid hb7
      have hz7 : V.heap.size ≤ wc.heap.size := B7.out.size
      have hbw : w.heap.size < wc.heap.size := by omega
      have d5 := (hb7.cell (p := ⟨w.heap.size, 5, none⟩) hlt).trans e5
      clear hg7 hb7 G2 B2 hz2' d3 HAC hm2
      go_upto_if 37 with fail
      go_cut [3] (fun v wx => ∃ (x : Option Addr) (m q : Nat) (A : Nat → Option Addr) (N C : Nat → Nat), v = .slice x m q ∧ GrowIts wx V.heap.size (.slice x m q) m ((HL ++ AL) ++ CL) A N C ∧ Below V.heap.size V wx ∧ m ≤ 9)
      case first =>
        by_cases hp0 : qp = 0
        · have HE := Lib.hid (HCO.out [] (by rw [if_pos hp0]))
          subst hp0
          go_wp2_with fail
          go_meet
          exact ⟨_, _, _, _, _, _, rfl, by rw [HE.out, List.append_nil]; exact G7.out, B7.out, by omega⟩
        · have HE := Lib.hid (HCO.out _ (by rw [if_neg hp0]))
          have q1 : (qp != 0) = true := by rw [bne_iff_ne]; exact hp0
          clear hp0
          have d1 := (B7.out.cell (p := ⟨w.heap.size, 1, none⟩) hlt).trans e1
          have HC5 : Hid (∀ W, Below wc.heap.size wc W → (W.cell? ⟨w.heap.size, 1, none⟩ = some (.string qf) ∧ W.cell? ⟨w.heap.size, 5, none⟩ = some (.int .i64 qp))) := Lib.hid fun W hb => ⟨(hb.cell (by exact hbw)).trans d1, (hb.cell (by exact hbw)).trans d5⟩
          have KSW : Hid (Calls Tryz.prog 146 #[.int .i64 qp] wc.drew fun e w' => e = .returned (.string sx) ∧ Below wc.heap.size wc w') := Lib.hid ((KS.out wc.drew (HPW.out _ (hbx.trans (B7.out.drew.mono (by omega))))).mono fun e w' ⟨h1, h2⟩ => ⟨h1, below_of_drew h2⟩)
          have HOFF : Hid (∀ i : Nat, some w.heap.size ≠ (Value.slice x7 m7 q7).ownBlock) := Lib.hid fun _ e => by have := (G7.out.row.lt _ e.symm).1; omega
          go_wp2_with fail
          have hS0 := HC5.out wc.drew (Below.refl _ _).drew
          go_region_held3 (fun W => W.cell? ⟨w.heap.size, 1, none⟩ = some (.string qf) ∧ W.cell? ⟨w.heap.size, 5, none⟩ = some (.int .i64 qp)) (first | with_reducible assumption | with_reducible exact HC5.out _ hb8 | with_reducible exact HC5.out _ hb8a | with_reducible exact HC5.out _ hb9 | with_reducible exact HC5.out _ hb9a)
            (first
              | (go_at_call 146; ((with_reducible refine KSW.out.mono ?_)); rintro e w8 ⟨rfl, hb8⟩; have hb8a := below_al8p hb8 (.cells #[.string ⟨#[112, 114, 105, 111, 114, 105, 116, 121]⟩, .string sx] 65); have G8 := Lib.hid (G7.out.below hb8))
              | (go_at_call 143; ((with_reducible refine (pidfElement_any _ _ _ _ _ _).mono ?_)); rintro e w9 ⟨rfl, hq9⟩; have hb9 := below_then hb8a hq9; have hb9a := below_al8p hb9 (.cells #[.int .i64 2, .string ⟨#[]⟩, .string ⟨#[117, 114, 110, 58, 105, 101, 116, 102, 58, 112, 97, 114, 97, 109, 115, 58, 120, 109, 108, 58, 110, 115, 58, 112, 105, 100, 102]⟩, .string ⟨#[99, 111, 110, 116, 97, 99, 116]⟩, .slice (some ⟨w8.heap.size, 0, none⟩) 1 1, .int .i64 3, .string (⟨#[120, 109, 112, 112, 58]⟩ ++ qf), .string ⟨#[]⟩, .string ⟨#[]⟩, .slice none 0 0] 67); have G9 := Lib.hid (G7.out.below hb9))
              | (refine step_own_at (by rfl) _ _ 24 rfl 67 i0 (.agg #[.int .i64 0, .string ByteArray.empty, .string ByteArray.empty, .string ByteArray.empty, .slice none 0 0]) 5 80 Tryz.underlying24 hi hz0 hi1 hz2 rfl (by decide) V.heap.size _ m7 _ (by rfl) ((G9.out.row).alloc _) ⟨w9.heap.size, 0, none⟩ 2 2 [.int .i64 2, .string ⟨#[]⟩, .string ⟨#[117, 114, 110, 58, 105, 101, 116, 102, 58, 112, 97, 114, 97, 109, 115, 58, 120, 109, 108, 58, 110, 115, 58, 112, 105, 100, 102]⟩, .string ⟨#[99, 111, 110, 116, 97, 99, 116]⟩, .slice (some ⟨w8.heap.size, 0, none⟩) 1 1, .int .i64 3, .string (⟨#[120, 109, 112, 112, 58]⟩ ++ qf), .string ⟨#[]⟩, .string ⟨#[]⟩, .slice none 0 0] (by rfl) rfl (fun j u hj => itemCells2 w9 _ _ _ _ _ _ _ _ _ _ j u hj) (by intro v hv; simp at hv; rcases hv with rfl | rfl | rfl | rfl | rfl | rfl | rfl | rfl | rfl | rfl <;> rfl) (by unfold maxLen; omega) (by omega) (by have := hb9.size; simp; omega) ?_; intro v' w10 hown hgr hat; obtain ⟨a10, c10, rfl⟩ := owns_slice hown; have hS10 : w10.cell? ⟨w.heap.size, 1, none⟩ = some (.string qf) ∧ w10.cell? ⟨w.heap.size, 5, none⟩ = some (.int .i64 qp) := ⟨hgr.cell (HC5.out _ hb9a).1 (HOFF.out 0), hgr.cell (HC5.out _ hb9a).2 (HOFF.out 0)⟩))
          have B8 := Lib.hid (B7.out.trans (hb8.mono B7.out.size))
          have hz8 : V.heap.size ≤ w8.heap.size := B8.out.size
          have hq10 := below_then (below1 w8 (.cells #[.string ⟨#[112, 114, 105, 111, 114, 105, 116, 121]⟩, .string sx] 65)) (below_then hq9 (below1 w9 (.cells #[.int .i64 2, .string ⟨#[]⟩, .string ⟨#[117, 114, 110, 58, 105, 101, 116, 102, 58, 112, 97, 114, 97, 109, 115, 58, 120, 109, 108, 58, 110, 115, 58, 112, 105, 100, 102]⟩, .string ⟨#[99, 111, 110, 116, 97, 99, 116]⟩, .slice (some ⟨w8.heap.size, 0, none⟩) 1 1, .int .i64 3, .string (⟨#[120, 109, 112, 112, 58]⟩ ++ qf), .string ⟨#[]⟩, .string ⟨#[]⟩, .slice none 0 0] 67)))
          obtain ⟨A10, N10, C10, hg10⟩ := G8.out.two1 (x := ⟨2, ⟨#[]⟩, ⟨#[117, 114, 110, 58, 105, 101, 116, 102, 58, 112, 97, 114, 97, 109, 115, 58, 120, 109, 108, 58, 110, 115, 58, 112, 105, 100, 102]⟩, ⟨#[99, 111, 110, 116, 97, 99, 116]⟩, [⟨⟨#[112, 114, 105, 111, 114, 105, 116, 121]⟩, sx⟩]⟩) (y := ⟨3, ⟨#[120, 109, 112, 112, 58]⟩ ++ qf, ⟨#[]⟩, ⟨#[]⟩, []⟩) hq10 ((lit_ats1 w8 w8.heap.size (Nat.le_refl _) ⟨#[112, 114, 105, 111, 114, 105, 116, 121]⟩ sx (by decide) (by omega)).later2 (below_then hq9 (below1 w9 (.cells #[.int .i64 2, .string ⟨#[]⟩, .string ⟨#[117, 114, 110, 58, 105, 101, 116, 102, 58, 112, 97, 114, 97, 109, 115, 58, 120, 109, 108, 58, 110, 115, 58, 112, 105, 100, 102]⟩, .string ⟨#[99, 111, 110, 116, 97, 99, 116]⟩, .slice (some ⟨w8.heap.size, 0, none⟩) 1 1, .int .i64 3, .string (⟨#[120, 109, 112, 112, 58]⟩ ++ qf), .string ⟨#[]⟩, .string ⟨#[]⟩, .slice none 0 0] 67)))) (fun e => by cases e) rfl hz8 hown hgr (hat.imp id fun e => ⟨w9.heap.size + 1, by simpa using e, by simp⟩)
          have G10 := Lib.hid hg10
          have B10 := Lib.hid (GrowIts.step B8.out G8.out hq10 hgr)
          clear hown hgr hat hg10 hq10
          go_wp2_with fail
          go_meet
          exact ⟨_, _, _, _, _, _, rfl, by rw [HE.out]; exact G10.out, B10.out, by omega⟩
      case rest =>
        obtain ⟨x11, m11, q11, A11, N11, C11, rfl, hg11, hb11, hm11⟩ := hcut
        have G11 := Lib.hid hg11
        have B11 := Lib.hid hb11
        have hz11 : V.heap.size ≤ wc.heap.size := B11.out.size
        have hbw : w.heap.size < wc.heap.size := by omega
        have d4 := (hb11.cell (p := ⟨w.heap.size, 4, none⟩) hlt).trans e4
        have HXX := Lib.hid (HX.out _ rfl)
        have HBX := Lib.hid hbx
        clear hg11 hb11 G7 B7 hz7 d5 HCO KS HX hbx
        cases hue : qu.toList.isEmpty
        · have HN : Hid (noteP8 qu = [⟨2, ⟨#[]⟩, ⟨#[117, 114, 110, 58, 105, 101, 116, 102, 58, 112, 97, 114, 97, 109, 115, 58, 120, 109, 108, 58, 110, 115, 58, 112, 105, 100, 102]⟩, ⟨#[110, 111, 116, 101]⟩, []⟩, ⟨3, qu, ⟨#[]⟩, ⟨#[]⟩, []⟩]) := Lib.hid (by unfold noteP8; rw [if_neg (by rw [hue]; simp)]; rfl)
          have HC4 : Hid (∀ W, Below wc.heap.size wc W → W.cell? ⟨w.heap.size, 4, none⟩ = some (.string qu)) := Lib.hid fun W hb => (hb.cell (by exact hbw)).trans d4
          have HOFF : Hid (∀ i : Nat, some w.heap.size ≠ (Value.slice x11 m11 q11).ownBlock) := Lib.hid fun _ e => by have := (G11.out.row.lt _ e.symm).1; omega
          go_wp2_with fail
          have hS0 : wc.drew.cell? ⟨w.heap.size, 4, none⟩ = some (.string qu) := d4
          go_region_held3 (fun W => W.cell? ⟨w.heap.size, 4, none⟩ = some (.string qu)) (first | with_reducible assumption | with_reducible exact HC4.out _ hb12 | with_reducible exact HC4.out _ hb12a)
            (first
              | (go_at_call 143; ((with_reducible refine (pidfElement_any _ _ _ _ _ _).mono ?_)); rintro e w12 ⟨rfl, hq12⟩; have hb12 := below_of_drew hq12; have hb12a := below_al8p hb12 (.cells #[.int .i64 2, .string ⟨#[]⟩, .string ⟨#[117, 114, 110, 58, 105, 101, 116, 102, 58, 112, 97, 114, 97, 109, 115, 58, 120, 109, 108, 58, 110, 115, 58, 112, 105, 100, 102]⟩, .string ⟨#[110, 111, 116, 101]⟩, .slice none 0 0, .int .i64 3, .string qu, .string ⟨#[]⟩, .string ⟨#[]⟩, .slice none 0 0] 67); have G12 := Lib.hid (G11.out.below hb12))
              | (refine step_own_at (by rfl) _ _ 24 rfl 67 i0 (.agg #[.int .i64 0, .string ByteArray.empty, .string ByteArray.empty, .string ByteArray.empty, .slice none 0 0]) 5 80 Tryz.underlying24 hi hz0 hi1 hz2 rfl (by decide) V.heap.size _ m11 _ (by rfl) ((G12.out.row).alloc _) ⟨w12.heap.size, 0, none⟩ 2 2 [.int .i64 2, .string ⟨#[]⟩, .string ⟨#[117, 114, 110, 58, 105, 101, 116, 102, 58, 112, 97, 114, 97, 109, 115, 58, 120, 109, 108, 58, 110, 115, 58, 112, 105, 100, 102]⟩, .string ⟨#[110, 111, 116, 101]⟩, .slice none 0 0, .int .i64 3, .string qu, .string ⟨#[]⟩, .string ⟨#[]⟩, .slice none 0 0] (by rfl) rfl (fun j u hj => itemCells2 w12 _ _ _ _ _ _ _ _ _ _ j u hj) (by intro v hv; simp at hv; rcases hv with rfl | rfl | rfl | rfl | rfl | rfl | rfl | rfl | rfl | rfl <;> rfl) (by unfold maxLen; omega) (by omega) (by have := hb12.size; simp; omega) ?_; intro v' w13 hown hgr hat; obtain ⟨a13, c13, rfl⟩ := owns_slice hown; have hS13 : w13.cell? ⟨w.heap.size, 4, none⟩ = some (.string qu) := hgr.cell (HC4.out _ hb12a) (HOFF.out 0)))
          have B12 := Lib.hid (B11.out.trans (hb12.mono B11.out.size))
          have hz12 : V.heap.size ≤ w12.heap.size := B12.out.size
          have G13 := Lib.hid (G12.out.two (x := ⟨2, ⟨#[]⟩, ⟨#[117, 114, 110, 58, 105, 101, 116, 102, 58, 112, 97, 114, 97, 109, 115, 58, 120, 109, 108, 58, 110, 115, 58, 112, 105, 100, 102]⟩, ⟨#[110, 111, 116, 101]⟩, []⟩) (y := ⟨3, qu, ⟨#[]⟩, ⟨#[]⟩, []⟩) (below1 w12 (.cells #[.int .i64 2, .string ⟨#[]⟩, .string ⟨#[117, 114, 110, 58, 105, 101, 116, 102, 58, 112, 97, 114, 97, 109, 115, 58, 120, 109, 108, 58, 110, 115, 58, 112, 105, 100, 102]⟩, .string ⟨#[110, 111, 116, 101]⟩, .slice none 0 0, .int .i64 3, .string qu, .string ⟨#[]⟩, .string ⟨#[]⟩, .slice none 0 0] 67)) rfl rfl hz12 hown hgr (hat.imp id fun e => ⟨w12.heap.size + 1, by simpa using e, by simp⟩))
          have B13 := Lib.hid (GrowIts.step B12.out G12.out (below1 w12 (.cells #[.int .i64 2, .string ⟨#[]⟩, .string ⟨#[117, 114, 110, 58, 105, 101, 116, 102, 58, 112, 97, 114, 97, 109, 115, 58, 120, 109, 108, 58, 110, 115, 58, 112, 105, 100, 102]⟩, .string ⟨#[110, 111, 116, 101]⟩, .slice none 0 0, .int .i64 3, .string qu, .string ⟨#[]⟩, .string ⟨#[]⟩, .slice none 0 0] 67)) hgr)
          clear hown hgr hat
          go_wp2
          go_ret
          exact ⟨_, _, _, _, _, _, rfl, by rw [HXX.out, HN.out]; exact G13.out.base9 (by omega), HBX.out.trans (B13.out.mono (by omega))⟩
        · have HN : Hid (noteP8 qu = []) := Lib.hid (by unfold noteP8; rw [if_pos hue])
          go_wp2
          go_ret
          exact ⟨_, _, _, _, _, _, rfl, by rw [HXX.out, HN.out, List.append_nil]; exact G11.out.base9 (by omega), HBX.out.trans (B11.out.mono (by omega))⟩
end Go.Proofs.YtcaknhoaoodbfaaGreatDoor
