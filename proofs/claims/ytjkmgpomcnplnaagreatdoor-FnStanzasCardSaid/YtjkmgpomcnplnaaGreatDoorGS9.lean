/- spec.l7Draw: a presence is drawn. -/
import Derived.Test.YtjkmgpomcnplnaaGreatDoorGS7
import Derived.Test.YtjkmgpomcnplnaaGreatDoorGS8
import Derived.Deep.DeepCutAuto
namespace Go.Proofs.YtjkmgpomcnplnaaGreatDoor
open Go.ChangeShapes Go.WideShapes Go.ChangeAt Go.RowKit
set_option linter.unusedVariables false
set_option linter.unusedSimpArgs false
def PrDrawn (w : World) (b : Nat) (a : Option Addr) (n c : Nat) (xs : List Int) (k : Nat) (en : Ending) (w' : World) : Prop :=
  ∃ (y : Pr) (x : Addr) (m q : Nat) (A : Nat → Option Addr) (N C : Nat → Nat) (k' : Nat), en = .returned (.agg #[.int .i64 y.kind, .string y.sender, .string y.goal, .int .i64 y.shown, .string y.status, .int .i64 y.prio, .slice (some x) m q]) ∧ GrowIts w' w.heap.size (.slice (some x) m q) m y.more A N C ∧ m ≤ 8 ∧ PrD y ∧ k' ≤ k + 3000 ∧ Src w' b a n c xs k' ∧ w.grownBy w' (some b)
structure Tame (y : Pr) : Prop where
  kind : 0 ≤ y.kind ∧ y.kind ≤ 6
  shown : 0 ≤ y.shown ∧ y.shown ≤ 4
  prio : -128 ≤ y.prio ∧ y.prio ≤ 127
def PrDrawnT (w : World) (b : Nat) (a : Option Addr) (n c : Nat) (xs : List Int) (k : Nat) (en : Ending) (w' : World) : Prop :=
  ∃ (y : Pr) (x : Addr) (m q : Nat) (A : Nat → Option Addr) (N C : Nat → Nat) (k' : Nat), en = .returned (.agg #[.int .i64 y.kind, .string y.sender, .string y.goal, .int .i64 y.shown, .string y.status, .int .i64 y.prio, .slice (some x) m q]) ∧ GrowIts w' w.heap.size (.slice (some x) m q) m y.more A N C ∧ m ≤ 8 ∧ PrD y ∧ k' ≤ k + 3000 ∧ Src w' b a n c xs k' ∧ w.grownBy w' (some b) ∧ Tame y
structure L7 (w V : World) (b : Nat) (a : Option Addr) (n c : Nat) (xs : List Int) (k : Nat) (f : Nat → ByteArray) : Prop where
  hb : b < w.heap.size
  hz : w.heap.size + 2 ≤ V.heap.size
  res : X7 V w.heap.size (.int .i64 0) (.string ⟨#[]⟩) (.string ⟨#[]⟩) (.int .i64 0) (.string ⟨#[]⟩) (.int .i64 0) (.slice none 0 0)
  src : Src V b a n c xs k
  gr : w.grownBy V (some b)
  wf : WAt V (w.heap.size + 1) 4 f
theorem L7.call {w V V' : World} {b : Nat} {a : Option Addr} {n c : Nat} {xs : List Int} {k k' : Nat} {f : Nat → ByteArray} (h : L7 w V b a n c xs k f) (hs : Src V' b a n c xs k') (hg : V.grownBy V' (some b)) : L7 w V' b a n c xs k' f := by
  have hb := h.hb
  exact ⟨hb, Nat.le_trans h.hz hg.size, h.res.grown hg (by intro e; injection e with e; omega), hs, grown_trans_row h.gr hg, wAtG h.wf hg (by intro e; injection e with e; omega)⟩
theorem L7.below {w V V' : World} {b : Nat} {a : Option Addr} {n c : Nat} {xs : List Int} {k : Nat} {f : Nat → ByteArray} (h : L7 w V b a n c xs k f) (hb : Below V.heap.size V V') : L7 w V' b a n c xs k f := h.call (h.src.below hb) (grown_of_below hb _)
set_option maxRecDepth 100000 in
set_option maxHeartbeats 3000000 in
theorem l7DrawT_any (b : Nat) (a : Option Addr) (n c : Nat) (xs : List Int) (k : Nat) (hk : k + 9000 < 1000000) (w : World) (h : Src w b a n c xs k) :
    Calls Tryz.prog 34 #[.pointer (some ⟨b, 0, none⟩)] w (PrDrawnT w b a n c xs k) := by
  have hb0 := h.lt
  have KN := Lib.hid (fun (k : Nat) (m : Int) (hm0 : 1 ≤ m) (hm : m ≤ 1000000000) (hk : k < 1000000) (W : World) (h : Src W b a n c xs k) => l1Next_any b a n c xs k m hm0 hm hk W h)
  unfold NextRes at KN
  have KM := Lib.hid (fun (k : Nat) (hk : k + 6000 < 1000000) (W : World) (h : Src W b a n c xs k) => l7More_any b a n c xs k hk W h)
  unfold MoreDrawn at KM
  have KD := Lib.hid (fun (k : Nat) (hk : k + 6 < 1000000) (W : World) (h : Src W b a n c xs k) => l1DrawText_any b a n c xs k 5 (by decide) (by omega) W h)
  unfold TextDrawn at KD
  simp only [show ((5 : Nat) : Int) = 5 from rfl] at KD
  have hbA := below1 w (.cells #[.int .i64 0, .string ⟨#[]⟩, .string ⟨#[]⟩, .int .i64 0, .string ⟨#[]⟩, .int .i64 0, .slice none 0 0] 26)
  have hbB := below_then hbA (below1 (w.alloc (.cells #[.int .i64 0, .string ⟨#[]⟩, .string ⟨#[]⟩, .int .i64 0, .string ⟨#[]⟩, .int .i64 0, .slice none 0 0] 26)) (.cells #[.string ⟨#[]⟩, .string ⟨#[97, 64, 98]⟩, .string ⟨#[106, 117, 108, 105, 101, 116, 64, 101, 120, 97, 109, 112, 108, 101, 46, 99, 111, 109, 47, 98, 97, 108, 99, 111, 110, 121]⟩, .string ⟨#[120]⟩] 9))
  have XR := (X7.new w 26 (.int .i64 0) (.string ⟨#[]⟩) (.string ⟨#[]⟩) (.int .i64 0) (.string ⟨#[]⟩) (.int .i64 0) (.slice none 0 0)).below (below1 _ (.cells #[.string ⟨#[]⟩, .string ⟨#[97, 64, 98]⟩, .string ⟨#[106, 117, 108, 105, 101, 116, 64, 101, 120, 97, 109, 112, 108, 101, 46, 99, 111, 109, 47, 98, 97, 108, 99, 111, 110, 121]⟩, .string ⟨#[120]⟩] 9))
  obtain ⟨f, hf0, hfs⟩ : ∃ f, WAt ((w.alloc (.cells #[.int .i64 0, .string ⟨#[]⟩, .string ⟨#[]⟩, .int .i64 0, .string ⟨#[]⟩, .int .i64 0, .slice none 0 0] 26)).alloc (.cells #[.string ⟨#[]⟩, .string ⟨#[97, 64, 98]⟩, .string ⟨#[106, 117, 108, 105, 101, 116, 64, 101, 120, 97, 109, 112, 108, 101, 46, 99, 111, 109, 47, 98, 97, 108, 99, 111, 110, 121]⟩, .string ⟨#[120]⟩] 9)) (w.heap.size + 1) 4 f ∧ ∀ r, r < 4 → (f r).size ≤ 60 := by
    have := wat_new (w.alloc (.cells #[.int .i64 0, .string ⟨#[]⟩, .string ⟨#[]⟩, .int .i64 0, .string ⟨#[]⟩, .int .i64 0, .slice none 0 0] 26)) #[.string ⟨#[]⟩, .string ⟨#[97, 64, 98]⟩, .string ⟨#[106, 117, 108, 105, 101, 116, 64, 101, 120, 97, 109, 112, 108, 101, 46, 99, 111, 109, 47, 98, 97, 108, 99, 111, 110, 121]⟩, .string ⟨#[120]⟩] 9 60 4 (by decide +kernel)
    rw [World.size_alloc] at this
    exact this
  have LL : Hid (L7 w ((w.alloc (.cells #[.int .i64 0, .string ⟨#[]⟩, .string ⟨#[]⟩, .int .i64 0, .string ⟨#[]⟩, .int .i64 0, .slice none 0 0] 26)).alloc (.cells #[.string ⟨#[]⟩, .string ⟨#[97, 64, 98]⟩, .string ⟨#[106, 117, 108, 105, 101, 116, 64, 101, 120, 97, 109, 112, 108, 101, 46, 99, 111, 109, 47, 98, 97, 108, 99, 111, 110, 121]⟩, .string ⟨#[120]⟩] 9)) b a n c xs k f) := Lib.hid ⟨hb0, by simp, XR, h.below hbB, grown_of_below hbB (some b), hf0⟩
  clear h hf0 hbA hbB XR
  go_enter Tryz.func34, Tryz.ntmps34
  go_wp2_with fail
  generalize (w.alloc (.cells #[.int .i64 0, .string ⟨#[]⟩, .string ⟨#[]⟩, .int .i64 0, .string ⟨#[]⟩, .int .i64 0, .slice none 0 0] 26)).alloc (.cells #[.string ⟨#[]⟩, .string ⟨#[97, 64, 98]⟩, .string ⟨#[106, 117, 108, 105, 101, 116, 64, 101, 120, 97, 109, 112, 108, 101, 46, 99, 111, 109, 47, 98, 97, 108, 99, 111, 110, 121]⟩, .string ⟨#[120]⟩] 9) = w0 at *
  go_cut [4] (fun v wx => ∃ (xp : Nat) (d : Int) (r1 r2 : Nat) (x : Addr) (m q : Nat) (l : List It) (A : Nat → Option Addr) (N C : Nat → Nat) (k5 B : Nat) (V : World), v = .pointer (some ⟨xp, 0, none⟩) ∧ 0 ≤ d ∧ d ≤ 6 ∧ r1 < 4 ∧ r2 < 4 ∧ k5 ≤ k + 2103 ∧ m ≤ 8 ∧ Hid (D7 w V wx b a n c xs k5 xp (.int .i64 d) (.string (f r1)) (.string (f r2)) (.int .i64 0) (.string ⟨#[]⟩) (.int .i64 0) (.slice (some x) m q)) ∧ Hid (GrowIts V B (.slice (some x) m q) m l A N C) ∧ Hid (∀ i, DrawnIt (l.getD i dIt)) ∧ w.heap.size < B ∧ (xp < B ∨ V.heap.size ≤ xp))
  case first =>
    have LN := Lib.hid (LL.out.below ((Below.refl w0.heap.size w0).drew))
    refine wp_region_noPanic ?_
    refine wp_region_held_drew (S := (fun W => ∀ r, r < 4 → W.cell? ⟨w.heap.size + 1, r, none⟩ = some (.string (f r)))) (by kernel_rfl) ?_ (fun hHeld => ?_)
    · exact LN.out.wf
    clear LL
    have LL := LN
    clear LN
    generalize w0.drew = V0 at *
    refine wpAnyH_take (i := 0) (oi := _) (v := ?_) rfl (by kernel_rfl) (by kernel_rfl) (by kernel_rfl) (fun _ _ _ h => h) (Or.inl ⟨by rfl, ?_⟩) (by with_reducible assumption) ?_
    rotate_left
    · intro Wz hSw
      clear hSw
      go_simp
      all_goals (with_reducible rfl)
    try simp only [Act.put, List.getElem_toArray, List.getElem_cons_zero, List.getElem_cons_succ, List.setIfInBounds_toArray, List.set_cons_zero, List.set_cons_succ]
    refine wpAnyH_take (i := 3) (oi := _) (v := ?_) rfl (by kernel_rfl) (by kernel_rfl) (by kernel_rfl) (fun _ _ _ h => h) (Or.inl ⟨by rfl, ?_⟩) (by with_reducible assumption) ?_
    rotate_left
    · intro Wz hSw
      clear hSw
      go_simp
      all_goals (with_reducible rfl)
    try simp only [Act.put, List.getElem_toArray, List.getElem_cons_zero, List.getElem_cons_succ, List.setIfInBounds_toArray, List.set_cons_zero, List.set_cons_succ]
    refine wpAnyH_take (i := 4) (oi := _) (v := ?_) rfl (by kernel_rfl) (by kernel_rfl) (by kernel_rfl) (fun _ _ _ h => h) (Or.inl ⟨by rfl, ?_⟩) (by with_reducible assumption) ?_
    rotate_left
    · intro Wz hSw
      clear hSw
      go_simp
      all_goals (with_reducible rfl)
    try simp only [Act.put, List.getElem_toArray, List.getElem_cons_zero, List.getElem_cons_succ, List.setIfInBounds_toArray, List.set_cons_zero, List.set_cons_succ]
    refine wpAnyH_take (i := 8) (oi := _) (v := ?_) rfl (by kernel_rfl) (by kernel_rfl) (by kernel_rfl) (fun _ _ _ h => h) (Or.inl ⟨by rfl, ?_⟩) (by with_reducible assumption) ?_
    rotate_left
    · intro Wz hSw
      clear hSw
      go_simp
      all_goals (with_reducible rfl)
    try simp only [Act.put, List.getElem_toArray, List.getElem_cons_zero, List.getElem_cons_succ, List.setIfInBounds_toArray, List.set_cons_zero, List.set_cons_succ]
    refine wpAnyH_take (i := 9) (oi := _) (v := ?_) rfl (by kernel_rfl) (by kernel_rfl) (by kernel_rfl) (fun _ _ _ h => h) (Or.inl ⟨by rfl, ?_⟩) (by with_reducible assumption) ?_
    rotate_left
    · intro Wz hSw
      clear hSw
      go_simp
      all_goals (with_reducible rfl)
    try simp only [Act.put, List.getElem_toArray, List.getElem_cons_zero, List.getElem_cons_succ, List.setIfInBounds_toArray, List.set_cons_zero, List.set_cons_succ]
    refine wpAnyH_take (i := 13) (oi := _) (v := ?_) rfl (by kernel_rfl) (by kernel_rfl) (by kernel_rfl) (fun _ _ _ h => h) (Or.inl ⟨by rfl, ?_⟩) (by with_reducible assumption) ?_
    rotate_left
    · intro Wz hSw
      clear hSw
      go_simp
      all_goals (with_reducible rfl)
    try simp only [Act.put, List.getElem_toArray, List.getElem_cons_zero, List.getElem_cons_succ, List.setIfInBounds_toArray, List.set_cons_zero, List.set_cons_succ]
    refine wpAnyH_ready (rs := [1, 16]) (by kernel_rfl) (by simp) ?_
    refine AllReadyH.cons (o := _) rfl (fun K hK => ?_) (AllReadyH.cons (o := _) rfl (fun K hK => ?_) AllReadyH.nil)
    · have LN := Lib.hid (LL.out.below (below1 V0 (.cells #[.int .i64 0, .int .i64 0, .int .i64 0, .int .i64 1, .int .i64 2, .int .i64 3, .int .i64 4, .int .i64 5, .int .i64 6] 2)))
      have HR : Hid (Row (V0.alloc (.cells #[.int .i64 0, .int .i64 0, .int .i64 0, .int .i64 1, .int .i64 2, .int .i64 3, .int .i64 4, .int .i64 5, .int .i64 6] 2)) .i64 (.slice (some ⟨V0.heap.size, 0, none⟩) 9 9) [0, 0, 0, 1, 2, 3, 4, 5, 6]) := Lib.hid (lit_row V0 2 .i64 [0, 0, 0, 1, 2, 3, 4, 5, 6] 9 rfl (by decide))
      have hlb : V0.heap.size ≠ b := by have := LL.out.hz; have := LL.out.hb; omega
      go_simp
      refine hK.out _ _ ?_ (fun hHeld => ?_)
      · exact LN.out.wf
      clear hK K
      try simp only [Act.put, List.getElem_toArray, List.getElem_cons_zero, List.getElem_cons_succ, List.setIfInBounds_toArray, List.set_cons_zero, List.set_cons_succ]
      clear LL
      have LL := LN
      clear LN
      generalize V0.heap.size = lb at HR hlb ⊢
      generalize V0.alloc (.cells #[.int .i64 0, .int .i64 0, .int .i64 0, .int .i64 1, .int .i64 2, .int .i64 3, .int .i64 4, .int .i64 5, .int .i64 6] 2) = V1 at *
      obtain ⟨V0, hV0⟩ : ∃ V0, V0 = V1 := ⟨_, rfl⟩
      subst hV0
      refine wpAnyH_ready (rs := [2, 16]) (by kernel_rfl) (by simp) ?_
      refine AllReadyH.cons (o := _) rfl (fun K hK => ?_) (AllReadyH.cons (o := _) rfl (fun K hK => ?_) AllReadyH.nil)
      · have KP := l1Pick_any b a n c xs k lb 9 _ rfl (by decide) (by decide) (by omega) _ LL.out.src HR.out hlb
        unfold PickRes at KP
        go_simp
        refine KP.mono ?_
        clear KP HR
        rintro e V1 ⟨d, rfl, hdm, hs, hg⟩
        have LN := Lib.hid (LL.out.call hs hg)
        have hd : 0 ≤ d ∧ d ≤ 6 := by
          simp only [List.mem_cons, List.not_mem_nil, or_false] at hdm
          omega
        clear hdm
        clear LL
        have LL := LN
        clear LN
        go_wp2_with fail
        refine hK.out _ _ ?_ (fun hHeld => ?_)
        · exact LL.out.wf
        clear hK K
        try simp only [Act.put, List.getElem_toArray, List.getElem_cons_zero, List.getElem_cons_succ, List.setIfInBounds_toArray, List.set_cons_zero, List.set_cons_succ]
        clear hs hg
        obtain ⟨V0, hV0⟩ : ∃ V0, V0 = V1 := ⟨_, rfl⟩
        subst hV0
        refine wpAnyH_ready (rs := [5, 16]) (by kernel_rfl) (by simp) ?_
        refine AllReadyH.cons (o := _) rfl (fun K hK => ?_) (AllReadyH.cons (o := _) rfl (fun K hK => ?_) AllReadyH.nil)
        · go_simp
          refine (KN.out (k + 1) 4 (by decide) (by decide) (by omega) _ LL.out.src).mono ?_
          rintro e V1 ⟨r1, rfl, hr1, hs, hg⟩
          have hr1 : r1 < 4 := by have := hr1 (by decide); omega
          have LN := Lib.hid (LL.out.call hs hg)
          clear LL
          have LL := LN
          clear LN
          go_wp2_with fail
          refine hK.out _ _ ?_ (fun hHeld => ?_)
          · exact LL.out.wf
          clear hK K
          try simp only [Act.put, List.getElem_toArray, List.getElem_cons_zero, List.getElem_cons_succ, List.setIfInBounds_toArray, List.set_cons_zero, List.set_cons_succ]
          clear hs hg
          obtain ⟨V0, hV0⟩ : ∃ V0, V0 = V1 := ⟨_, rfl⟩
          subst hV0
          refine wpAnyH_take (i := 6) (oi := _) (v := ?_) rfl (by kernel_rfl) (by kernel_rfl) (by kernel_rfl) (fun _ _ _ h => h) (Or.inl ⟨by rfl, ?_⟩) (by with_reducible assumption) ?_
          rotate_left
          · intro Wz hSw
            clear hSw
            go_simp
            all_goals (with_reducible rfl)
          try simp only [Act.put, List.getElem_toArray, List.getElem_cons_zero, List.getElem_cons_succ, List.setIfInBounds_toArray, List.set_cons_zero, List.set_cons_succ]
          refine wpAnyH_take (i := 7) (oi := _) (v := ?_) rfl (by kernel_rfl) (by kernel_rfl) (by kernel_rfl) (fun _ _ _ h => h) (Or.inl ⟨by rfl, ?_⟩) (by with_reducible assumption) ?_
          rotate_left
          · intro Wz hSw
            have hw := hSw r1 hr1
            clear hSw
            go_simp
            all_goals (with_reducible rfl)
          try simp only [Act.put, List.getElem_toArray, List.getElem_cons_zero, List.getElem_cons_succ, List.setIfInBounds_toArray, List.set_cons_zero, List.set_cons_succ]
          refine wpAnyH_ready (rs := [10, 16]) (by kernel_rfl) (by simp) ?_
          refine AllReadyH.cons (o := _) rfl (fun K hK => ?_) (AllReadyH.cons (o := _) rfl (fun K hK => ?_) AllReadyH.nil)
          · go_simp
            refine (KN.out (k + 1 + 1) 4 (by decide) (by decide) (by omega) _ LL.out.src).mono ?_
            rintro e V1 ⟨r2, rfl, hr2, hs, hg⟩
            have hr2 : r2 < 4 := by have := hr2 (by decide); omega
            have LN := Lib.hid (LL.out.call hs hg)
            clear LL
            have LL := LN
            clear LN
            go_wp2_with fail
            refine hK.out _ _ ?_ (fun hHeld => ?_)
            · exact LL.out.wf
            clear hK K
            try simp only [Act.put, List.getElem_toArray, List.getElem_cons_zero, List.getElem_cons_succ, List.setIfInBounds_toArray, List.set_cons_zero, List.set_cons_succ]
            clear hs hg
            obtain ⟨V0, hV0⟩ : ∃ V0, V0 = V1 := ⟨_, rfl⟩
            subst hV0
            refine wpAnyH_take (i := 11) (oi := _) (v := ?_) rfl (by kernel_rfl) (by kernel_rfl) (by kernel_rfl) (fun _ _ _ h => h) (Or.inl ⟨by rfl, ?_⟩) (by with_reducible assumption) ?_
            rotate_left
            · intro Wz hSw
              clear hSw
              go_simp
              all_goals (with_reducible rfl)
            try simp only [Act.put, List.getElem_toArray, List.getElem_cons_zero, List.getElem_cons_succ, List.setIfInBounds_toArray, List.set_cons_zero, List.set_cons_succ]
            refine wpAnyH_take (i := 12) (oi := _) (v := ?_) rfl (by kernel_rfl) (by kernel_rfl) (by kernel_rfl) (fun _ _ _ h => h) (Or.inl ⟨by rfl, ?_⟩) (by with_reducible assumption) ?_
            rotate_left
            · intro Wz hSw
              have hw := hSw r2 hr2
              clear hSw
              go_simp
              all_goals (with_reducible rfl)
            try simp only [Act.put, List.getElem_toArray, List.getElem_cons_zero, List.getElem_cons_succ, List.setIfInBounds_toArray, List.set_cons_zero, List.set_cons_succ]
            refine wpAnyH_ready (rs := [14, 16]) (by kernel_rfl) (by simp) ?_
            refine AllReadyH.cons (o := _) rfl (fun K hK => ?_) (AllReadyH.cons (o := _) rfl (fun K hK => ?_) AllReadyH.nil)
            · go_simp
              refine (KM.out (k + 1 + 1 + 1) (by omega) _ LL.out.src).mono ?_
              rintro e V1 ⟨x, m, q, l, A, N, C, k5, rfl, hG5, hm5, hD5, hk5, hs, hg⟩
              have LN := Lib.hid (LL.out.call hs hg)
              have GM := Lib.hid hG5
              have HD5 := Lib.hid hD5
              have hBV : w.heap.size < V0.heap.size := by have := LL.out.hz; omega
              clear hG5 hD5
              clear LL
              have LL := LN
              clear LN
              go_wp2_with fail
              refine hK.out _ _ ?_ (fun hHeld => ?_)
              · exact LL.out.wf
              clear hK K
              try simp only [Act.put, List.getElem_toArray, List.getElem_cons_zero, List.getElem_cons_succ, List.setIfInBounds_toArray, List.set_cons_zero, List.set_cons_succ]
              clear hs hg
              obtain ⟨V4, hV4⟩ : ∃ V4, V4 = V0 := ⟨_, rfl⟩
              subst hV4
              obtain ⟨V0, hV0⟩ : ∃ V0, V0 = V1 := ⟨_, rfl⟩
              subst hV0
              refine wpAnyH_take (i := 15) (oi := _) (v := ?_) rfl (by kernel_rfl) (by kernel_rfl) (by kernel_rfl) (fun _ _ _ h => h) (Or.inl ⟨by rfl, ?_⟩) (by with_reducible assumption) ?_
              rotate_left
              · intro Wz hSw
                clear hSw
                go_simp
                all_goals (with_reducible rfl)
              try simp only [Act.put, List.getElem_toArray, List.getElem_cons_zero, List.getElem_cons_succ, List.setIfInBounds_toArray, List.set_cons_zero, List.set_cons_succ]
              refine wpAnyH_ready (rs := [16]) (by kernel_rfl) (by simp) ?_
              refine AllReadyH.cons (o := _) rfl (fun K hK => ?_) AllReadyH.nil
              have LN := Lib.hid (LL.out.below (below1 V0 (.cells #[.int .i64 0, .string ⟨#[]⟩, .string ⟨#[]⟩, .int .i64 0, .string ⟨#[]⟩, .int .i64 0, .slice none 0 0] 26)))
              have BX := Lib.hid (X7.new V0 26 (.int .i64 0) (.string ⟨#[]⟩) (.string ⟨#[]⟩) (.int .i64 0) (.string ⟨#[]⟩) (.int .i64 0) (.slice none 0 0))
              have hxw : w.heap.size + 1 ≠ V0.heap.size := by have := LL.out.hz; omega
              have hxz : w.heap.size < V0.heap.size := by have := LL.out.hz; omega
              have DD := Lib.hid (⟨LL.out.hb, hxz, LN.out.res, BX.out, LN.out.src, LN.out.gr, Only.below (below1 V0 (.cells #[.int .i64 0, .string ⟨#[]⟩, .string ⟨#[]⟩, .int .i64 0, .string ⟨#[]⟩, .int .i64 0, .slice none 0 0] 26))⟩ : D7 w V0 (V0.alloc (.cells #[.int .i64 0, .string ⟨#[]⟩, .string ⟨#[]⟩, .int .i64 0, .string ⟨#[]⟩, .int .i64 0, .slice none 0 0] 26)) b a n c xs k5 V0.heap.size (.int .i64 0) (.string ⟨#[]⟩) (.string ⟨#[]⟩) (.int .i64 0) (.string ⟨#[]⟩) (.int .i64 0) (.slice none 0 0))
              go_simp
              refine hK.out _ _ ?_ (fun hHeld => ?_)
              · exact LN.out.wf
              clear hK K
              try simp only [Act.put, List.getElem_toArray, List.getElem_cons_zero, List.getElem_cons_succ, List.setIfInBounds_toArray, List.set_cons_zero, List.set_cons_succ]
              clear LL
              have LL := LN
              clear LN
              generalize V0.alloc (.cells #[.int .i64 0, .string ⟨#[]⟩, .string ⟨#[]⟩, .int .i64 0, .string ⟨#[]⟩, .int .i64 0, .slice none 0 0] 26) = V0b at *
              obtain ⟨xp, hxp⟩ : ∃ xp, V0.heap.size = xp := ⟨_, rfl⟩
              rw [hxp] at DD BX hxw hxz ⊢
              have hxs : xp < V4.heap.size ∨ V0.heap.size ≤ xp := .inr (by omega)
              clear hxp
              have e0 := DD.out.box.c0
              have e1 := DD.out.box.c1
              have e2 := DD.out.box.c2
              have e3 := DD.out.box.c3
              have e4 := DD.out.box.c4
              have e5 := DD.out.box.c5
              have e6 := DD.out.box.c6
              have g0 := DD.out.box.fz 0 (by decide)
              have g1 := DD.out.box.fz 1 (by decide)
              have g2 := DD.out.box.fz 2 (by decide)
              have g3 := DD.out.box.fz 3 (by decide)
              have g4 := DD.out.box.fz 4 (by decide)
              have g5 := DD.out.box.fz 5 (by decide)
              have g6 := DD.out.box.fz 6 (by decide)
              have D9 := Lib.hid (DD.out.fill (.int .i64 d) (.string (f r1)) (.string (f r2)) (.int .i64 0) (.string ⟨#[]⟩) (.int .i64 0) (.slice (some x) m q))
              have HF9 := Lib.hid (wAtS (wAtS (wAtS (wAtS (wAtS (wAtS (wAtS LL.out.wf hxw 0 (.int .i64 d)) hxw 1 (.string (f r1))) hxw 2 (.string (f r2))) hxw 3 (.int .i64 0)) hxw 4 (.string ⟨#[]⟩)) hxw 5 (.int .i64 0)) hxw 6 (.slice (some x) m q))
              refine wpAnyH_ready (rs := [17]) (by kernel_rfl) (by simp) ?_
              refine AllReadyH.cons (o := _) rfl (fun K hK => ?_) AllReadyH.nil
              go_simp
              refine hK.out _ _ ?_ (fun hHeld => ?_)
              · exact (fun r hr => HF9.out r hr)
              clear hK K
              try simp only [Act.put, List.getElem_toArray, List.getElem_cons_zero, List.getElem_cons_succ, List.setIfInBounds_toArray, List.set_cons_zero, List.set_cons_succ]
              refine wpAnyH_done (by kernel_rfl) ?_ _
              refine NoPanic.normal ?_
              go_wp2_with fail
              go_meet
              exact ⟨xp, d, r1, r2, x, m, q, l, A, N, C, k5, _, _, rfl, hd.1, hd.2, hr1, hr2, by omega, hm5, D9, GM, HD5, hBV, hxs⟩
            · have LN := Lib.hid (LL.out.below (below1 V0 (.cells #[.int .i64 0, .string ⟨#[]⟩, .string ⟨#[]⟩, .int .i64 0, .string ⟨#[]⟩, .int .i64 0, .slice none 0 0] 26)))
              have BX := Lib.hid (X7.new V0 26 (.int .i64 0) (.string ⟨#[]⟩) (.string ⟨#[]⟩) (.int .i64 0) (.string ⟨#[]⟩) (.int .i64 0) (.slice none 0 0))
              have hxw : w.heap.size + 1 ≠ V0.heap.size := by have := LL.out.hz; omega
              have hxz : w.heap.size < V0.heap.size := by have := LL.out.hz; omega
              go_simp
              refine hK.out _ _ ?_ (fun hHeld => ?_)
              · exact LN.out.wf
              clear hK K
              try simp only [Act.put, List.getElem_toArray, List.getElem_cons_zero, List.getElem_cons_succ, List.setIfInBounds_toArray, List.set_cons_zero, List.set_cons_succ]
              clear LL
              have LL := LN
              clear LN
              generalize V0.heap.size = xp at BX hxw hxz ⊢
              generalize V0.alloc (.cells #[.int .i64 0, .string ⟨#[]⟩, .string ⟨#[]⟩, .int .i64 0, .string ⟨#[]⟩, .int .i64 0, .slice none 0 0] 26) = V1 at *
              obtain ⟨V0, hV0⟩ : ∃ V0, V0 = V1 := ⟨_, rfl⟩
              subst hV0
              refine wpAnyH_ready (rs := [14]) (by kernel_rfl) (by simp) ?_
              refine AllReadyH.cons (o := _) rfl (fun K hK => ?_) AllReadyH.nil
              go_simp
              refine (KM.out (k + 1 + 1 + 1) (by omega) _ LL.out.src).mono ?_
              rintro e V1 ⟨x, m, q, l, A, N, C, k5, rfl, hG5, hm5, hD5, hk5, hs, hg⟩
              have LN := Lib.hid (LL.out.call hs hg)
              have BN := Lib.hid (BX.out.grown hg (by have := LL.out.hb; intro e; injection e with e; omega))
              have hxs : xp < V0.heap.size ∨ V1.heap.size ≤ xp := .inl BX.out.lt
              have GM := Lib.hid hG5
              have HD5 := Lib.hid hD5
              have hBV : w.heap.size < V0.heap.size := by have := LL.out.hz; omega
              clear hG5 hD5
              clear LL
              have LL := LN
              clear LN
              clear BX
              have BX := BN
              clear BN
              go_wp2_with fail
              refine hK.out _ _ ?_ (fun hHeld => ?_)
              · exact LL.out.wf
              clear hK K
              try simp only [Act.put, List.getElem_toArray, List.getElem_cons_zero, List.getElem_cons_succ, List.setIfInBounds_toArray, List.set_cons_zero, List.set_cons_succ]
              clear hs hg
              have DD := Lib.hid (⟨LL.out.hb, hxz, LL.out.res, BX.out, LL.out.src, LL.out.gr, Only.refl V1⟩ : D7 w V1 V1 b a n c xs k5 xp (.int .i64 0) (.string ⟨#[]⟩) (.string ⟨#[]⟩) (.int .i64 0) (.string ⟨#[]⟩) (.int .i64 0) (.slice none 0 0))
              refine wpAnyH_take (i := 15) (oi := _) (v := ?_) rfl (by kernel_rfl) (by kernel_rfl) (by kernel_rfl) (fun _ _ _ h => h) (Or.inl ⟨by rfl, ?_⟩) (by with_reducible assumption) ?_
              rotate_left
              · intro Wz hSw
                clear hSw
                go_simp
                all_goals (with_reducible rfl)
              try simp only [Act.put, List.getElem_toArray, List.getElem_cons_zero, List.getElem_cons_succ, List.setIfInBounds_toArray, List.set_cons_zero, List.set_cons_succ]
              have e0 := DD.out.box.c0
              have e1 := DD.out.box.c1
              have e2 := DD.out.box.c2
              have e3 := DD.out.box.c3
              have e4 := DD.out.box.c4
              have e5 := DD.out.box.c5
              have e6 := DD.out.box.c6
              have g0 := DD.out.box.fz 0 (by decide)
              have g1 := DD.out.box.fz 1 (by decide)
              have g2 := DD.out.box.fz 2 (by decide)
              have g3 := DD.out.box.fz 3 (by decide)
              have g4 := DD.out.box.fz 4 (by decide)
              have g5 := DD.out.box.fz 5 (by decide)
              have g6 := DD.out.box.fz 6 (by decide)
              have D9 := Lib.hid (DD.out.fill (.int .i64 d) (.string (f r1)) (.string (f r2)) (.int .i64 0) (.string ⟨#[]⟩) (.int .i64 0) (.slice (some x) m q))
              have HF9 := Lib.hid (wAtS (wAtS (wAtS (wAtS (wAtS (wAtS (wAtS LL.out.wf hxw 0 (.int .i64 d)) hxw 1 (.string (f r1))) hxw 2 (.string (f r2))) hxw 3 (.int .i64 0)) hxw 4 (.string ⟨#[]⟩)) hxw 5 (.int .i64 0)) hxw 6 (.slice (some x) m q))
              refine wpAnyH_ready (rs := [17]) (by kernel_rfl) (by simp) ?_
              refine AllReadyH.cons (o := _) rfl (fun K hK => ?_) AllReadyH.nil
              go_simp
              refine hK.out _ _ ?_ (fun hHeld => ?_)
              · exact (fun r hr => HF9.out r hr)
              clear hK K
              try simp only [Act.put, List.getElem_toArray, List.getElem_cons_zero, List.getElem_cons_succ, List.setIfInBounds_toArray, List.set_cons_zero, List.set_cons_succ]
              refine wpAnyH_done (by kernel_rfl) ?_ _
              refine NoPanic.normal ?_
              go_wp2_with fail
              go_meet
              exact ⟨xp, d, r1, r2, x, m, q, l, A, N, C, k5, _, _, rfl, hd.1, hd.2, hr1, hr2, by omega, hm5, D9, GM, HD5, hBV, hxs⟩
          · have LN := Lib.hid (LL.out.below (below1 V0 (.cells #[.int .i64 0, .string ⟨#[]⟩, .string ⟨#[]⟩, .int .i64 0, .string ⟨#[]⟩, .int .i64 0, .slice none 0 0] 26)))
            have BX := Lib.hid (X7.new V0 26 (.int .i64 0) (.string ⟨#[]⟩) (.string ⟨#[]⟩) (.int .i64 0) (.string ⟨#[]⟩) (.int .i64 0) (.slice none 0 0))
            have hxw : w.heap.size + 1 ≠ V0.heap.size := by have := LL.out.hz; omega
            have hxz : w.heap.size < V0.heap.size := by have := LL.out.hz; omega
            go_simp
            refine hK.out _ _ ?_ (fun hHeld => ?_)
            · exact LN.out.wf
            clear hK K
            try simp only [Act.put, List.getElem_toArray, List.getElem_cons_zero, List.getElem_cons_succ, List.setIfInBounds_toArray, List.set_cons_zero, List.set_cons_succ]
            clear LL
            have LL := LN
            clear LN
            generalize V0.heap.size = xp at BX hxw hxz ⊢
            generalize V0.alloc (.cells #[.int .i64 0, .string ⟨#[]⟩, .string ⟨#[]⟩, .int .i64 0, .string ⟨#[]⟩, .int .i64 0, .slice none 0 0] 26) = V1 at *
            obtain ⟨V0, hV0⟩ : ∃ V0, V0 = V1 := ⟨_, rfl⟩
            subst hV0
            refine wpAnyH_ready (rs := [10]) (by kernel_rfl) (by simp) ?_
            refine AllReadyH.cons (o := _) rfl (fun K hK => ?_) AllReadyH.nil
            go_simp
            refine (KN.out (k + 1 + 1) 4 (by decide) (by decide) (by omega) _ LL.out.src).mono ?_
            rintro e V1 ⟨r2, rfl, hr2, hs, hg⟩
            have hr2 : r2 < 4 := by have := hr2 (by decide); omega
            have LN := Lib.hid (LL.out.call hs hg)
            have BN := Lib.hid (BX.out.grown hg (by have := LL.out.hb; intro e; injection e with e; omega))
            clear LL
            have LL := LN
            clear LN
            clear BX
            have BX := BN
            clear BN
            go_wp2_with fail
            refine hK.out _ _ ?_ (fun hHeld => ?_)
            · exact LL.out.wf
            clear hK K
            try simp only [Act.put, List.getElem_toArray, List.getElem_cons_zero, List.getElem_cons_succ, List.setIfInBounds_toArray, List.set_cons_zero, List.set_cons_succ]
            clear hs hg
            obtain ⟨V0, hV0⟩ : ∃ V0, V0 = V1 := ⟨_, rfl⟩
            subst hV0
            refine wpAnyH_take (i := 11) (oi := _) (v := ?_) rfl (by kernel_rfl) (by kernel_rfl) (by kernel_rfl) (fun _ _ _ h => h) (Or.inl ⟨by rfl, ?_⟩) (by with_reducible assumption) ?_
            rotate_left
            · intro Wz hSw
              clear hSw
              go_simp
              all_goals (with_reducible rfl)
            try simp only [Act.put, List.getElem_toArray, List.getElem_cons_zero, List.getElem_cons_succ, List.setIfInBounds_toArray, List.set_cons_zero, List.set_cons_succ]
            refine wpAnyH_take (i := 12) (oi := _) (v := ?_) rfl (by kernel_rfl) (by kernel_rfl) (by kernel_rfl) (fun _ _ _ h => h) (Or.inl ⟨by rfl, ?_⟩) (by with_reducible assumption) ?_
            rotate_left
            · intro Wz hSw
              have hw := hSw r2 hr2
              clear hSw
              go_simp
              all_goals (with_reducible rfl)
            try simp only [Act.put, List.getElem_toArray, List.getElem_cons_zero, List.getElem_cons_succ, List.setIfInBounds_toArray, List.set_cons_zero, List.set_cons_succ]
            refine wpAnyH_ready (rs := [14]) (by kernel_rfl) (by simp) ?_
            refine AllReadyH.cons (o := _) rfl (fun K hK => ?_) AllReadyH.nil
            go_simp
            refine (KM.out (k + 1 + 1 + 1) (by omega) _ LL.out.src).mono ?_
            rintro e V1 ⟨x, m, q, l, A, N, C, k5, rfl, hG5, hm5, hD5, hk5, hs, hg⟩
            have LN := Lib.hid (LL.out.call hs hg)
            have BN := Lib.hid (BX.out.grown hg (by have := LL.out.hb; intro e; injection e with e; omega))
            have hxs : xp < V0.heap.size ∨ V1.heap.size ≤ xp := .inl BX.out.lt
            have GM := Lib.hid hG5
            have HD5 := Lib.hid hD5
            have hBV : w.heap.size < V0.heap.size := by have := LL.out.hz; omega
            clear hG5 hD5
            clear LL
            have LL := LN
            clear LN
            clear BX
            have BX := BN
            clear BN
            go_wp2_with fail
            refine hK.out _ _ ?_ (fun hHeld => ?_)
            · exact LL.out.wf
            clear hK K
            try simp only [Act.put, List.getElem_toArray, List.getElem_cons_zero, List.getElem_cons_succ, List.setIfInBounds_toArray, List.set_cons_zero, List.set_cons_succ]
            clear hs hg
            have DD := Lib.hid (⟨LL.out.hb, hxz, LL.out.res, BX.out, LL.out.src, LL.out.gr, Only.refl V1⟩ : D7 w V1 V1 b a n c xs k5 xp (.int .i64 0) (.string ⟨#[]⟩) (.string ⟨#[]⟩) (.int .i64 0) (.string ⟨#[]⟩) (.int .i64 0) (.slice none 0 0))
            refine wpAnyH_take (i := 15) (oi := _) (v := ?_) rfl (by kernel_rfl) (by kernel_rfl) (by kernel_rfl) (fun _ _ _ h => h) (Or.inl ⟨by rfl, ?_⟩) (by with_reducible assumption) ?_
            rotate_left
            · intro Wz hSw
              clear hSw
              go_simp
              all_goals (with_reducible rfl)
            try simp only [Act.put, List.getElem_toArray, List.getElem_cons_zero, List.getElem_cons_succ, List.setIfInBounds_toArray, List.set_cons_zero, List.set_cons_succ]
            have e0 := DD.out.box.c0
            have e1 := DD.out.box.c1
            have e2 := DD.out.box.c2
            have e3 := DD.out.box.c3
            have e4 := DD.out.box.c4
            have e5 := DD.out.box.c5
            have e6 := DD.out.box.c6
            have g0 := DD.out.box.fz 0 (by decide)
            have g1 := DD.out.box.fz 1 (by decide)
            have g2 := DD.out.box.fz 2 (by decide)
            have g3 := DD.out.box.fz 3 (by decide)
            have g4 := DD.out.box.fz 4 (by decide)
            have g5 := DD.out.box.fz 5 (by decide)
            have g6 := DD.out.box.fz 6 (by decide)
            have D9 := Lib.hid (DD.out.fill (.int .i64 d) (.string (f r1)) (.string (f r2)) (.int .i64 0) (.string ⟨#[]⟩) (.int .i64 0) (.slice (some x) m q))
            have HF9 := Lib.hid (wAtS (wAtS (wAtS (wAtS (wAtS (wAtS (wAtS LL.out.wf hxw 0 (.int .i64 d)) hxw 1 (.string (f r1))) hxw 2 (.string (f r2))) hxw 3 (.int .i64 0)) hxw 4 (.string ⟨#[]⟩)) hxw 5 (.int .i64 0)) hxw 6 (.slice (some x) m q))
            refine wpAnyH_ready (rs := [17]) (by kernel_rfl) (by simp) ?_
            refine AllReadyH.cons (o := _) rfl (fun K hK => ?_) AllReadyH.nil
            go_simp
            refine hK.out _ _ ?_ (fun hHeld => ?_)
            · exact (fun r hr => HF9.out r hr)
            clear hK K
            try simp only [Act.put, List.getElem_toArray, List.getElem_cons_zero, List.getElem_cons_succ, List.setIfInBounds_toArray, List.set_cons_zero, List.set_cons_succ]
            refine wpAnyH_done (by kernel_rfl) ?_ _
            refine NoPanic.normal ?_
            go_wp2_with fail
            go_meet
            exact ⟨xp, d, r1, r2, x, m, q, l, A, N, C, k5, _, _, rfl, hd.1, hd.2, hr1, hr2, by omega, hm5, D9, GM, HD5, hBV, hxs⟩
        · have LN := Lib.hid (LL.out.below (below1 V0 (.cells #[.int .i64 0, .string ⟨#[]⟩, .string ⟨#[]⟩, .int .i64 0, .string ⟨#[]⟩, .int .i64 0, .slice none 0 0] 26)))
          have BX := Lib.hid (X7.new V0 26 (.int .i64 0) (.string ⟨#[]⟩) (.string ⟨#[]⟩) (.int .i64 0) (.string ⟨#[]⟩) (.int .i64 0) (.slice none 0 0))
          have hxw : w.heap.size + 1 ≠ V0.heap.size := by have := LL.out.hz; omega
          have hxz : w.heap.size < V0.heap.size := by have := LL.out.hz; omega
          go_simp
          refine hK.out _ _ ?_ (fun hHeld => ?_)
          · exact LN.out.wf
          clear hK K
          try simp only [Act.put, List.getElem_toArray, List.getElem_cons_zero, List.getElem_cons_succ, List.setIfInBounds_toArray, List.set_cons_zero, List.set_cons_succ]
          clear LL
          have LL := LN
          clear LN
          generalize V0.heap.size = xp at BX hxw hxz ⊢
          generalize V0.alloc (.cells #[.int .i64 0, .string ⟨#[]⟩, .string ⟨#[]⟩, .int .i64 0, .string ⟨#[]⟩, .int .i64 0, .slice none 0 0] 26) = V1 at *
          obtain ⟨V0, hV0⟩ : ∃ V0, V0 = V1 := ⟨_, rfl⟩
          subst hV0
          refine wpAnyH_ready (rs := [5]) (by kernel_rfl) (by simp) ?_
          refine AllReadyH.cons (o := _) rfl (fun K hK => ?_) AllReadyH.nil
          go_simp
          refine (KN.out (k + 1) 4 (by decide) (by decide) (by omega) _ LL.out.src).mono ?_
          rintro e V1 ⟨r1, rfl, hr1, hs, hg⟩
          have hr1 : r1 < 4 := by have := hr1 (by decide); omega
          have LN := Lib.hid (LL.out.call hs hg)
          have BN := Lib.hid (BX.out.grown hg (by have := LL.out.hb; intro e; injection e with e; omega))
          clear LL
          have LL := LN
          clear LN
          clear BX
          have BX := BN
          clear BN
          go_wp2_with fail
          refine hK.out _ _ ?_ (fun hHeld => ?_)
          · exact LL.out.wf
          clear hK K
          try simp only [Act.put, List.getElem_toArray, List.getElem_cons_zero, List.getElem_cons_succ, List.setIfInBounds_toArray, List.set_cons_zero, List.set_cons_succ]
          clear hs hg
          obtain ⟨V0, hV0⟩ : ∃ V0, V0 = V1 := ⟨_, rfl⟩
          subst hV0
          refine wpAnyH_take (i := 6) (oi := _) (v := ?_) rfl (by kernel_rfl) (by kernel_rfl) (by kernel_rfl) (fun _ _ _ h => h) (Or.inl ⟨by rfl, ?_⟩) (by with_reducible assumption) ?_
          rotate_left
          · intro Wz hSw
            clear hSw
            go_simp
            all_goals (with_reducible rfl)
          try simp only [Act.put, List.getElem_toArray, List.getElem_cons_zero, List.getElem_cons_succ, List.setIfInBounds_toArray, List.set_cons_zero, List.set_cons_succ]
          refine wpAnyH_take (i := 7) (oi := _) (v := ?_) rfl (by kernel_rfl) (by kernel_rfl) (by kernel_rfl) (fun _ _ _ h => h) (Or.inl ⟨by rfl, ?_⟩) (by with_reducible assumption) ?_
          rotate_left
          · intro Wz hSw
            have hw := hSw r1 hr1
            clear hSw
            go_simp
            all_goals (with_reducible rfl)
          try simp only [Act.put, List.getElem_toArray, List.getElem_cons_zero, List.getElem_cons_succ, List.setIfInBounds_toArray, List.set_cons_zero, List.set_cons_succ]
          refine wpAnyH_ready (rs := [10]) (by kernel_rfl) (by simp) ?_
          refine AllReadyH.cons (o := _) rfl (fun K hK => ?_) AllReadyH.nil
          go_simp
          refine (KN.out (k + 1 + 1) 4 (by decide) (by decide) (by omega) _ LL.out.src).mono ?_
          rintro e V1 ⟨r2, rfl, hr2, hs, hg⟩
          have hr2 : r2 < 4 := by have := hr2 (by decide); omega
          have LN := Lib.hid (LL.out.call hs hg)
          have BN := Lib.hid (BX.out.grown hg (by have := LL.out.hb; intro e; injection e with e; omega))
          clear LL
          have LL := LN
          clear LN
          clear BX
          have BX := BN
          clear BN
          go_wp2_with fail
          refine hK.out _ _ ?_ (fun hHeld => ?_)
          · exact LL.out.wf
          clear hK K
          try simp only [Act.put, List.getElem_toArray, List.getElem_cons_zero, List.getElem_cons_succ, List.setIfInBounds_toArray, List.set_cons_zero, List.set_cons_succ]
          clear hs hg
          obtain ⟨V0, hV0⟩ : ∃ V0, V0 = V1 := ⟨_, rfl⟩
          subst hV0
          refine wpAnyH_take (i := 11) (oi := _) (v := ?_) rfl (by kernel_rfl) (by kernel_rfl) (by kernel_rfl) (fun _ _ _ h => h) (Or.inl ⟨by rfl, ?_⟩) (by with_reducible assumption) ?_
          rotate_left
          · intro Wz hSw
            clear hSw
            go_simp
            all_goals (with_reducible rfl)
          try simp only [Act.put, List.getElem_toArray, List.getElem_cons_zero, List.getElem_cons_succ, List.setIfInBounds_toArray, List.set_cons_zero, List.set_cons_succ]
          refine wpAnyH_take (i := 12) (oi := _) (v := ?_) rfl (by kernel_rfl) (by kernel_rfl) (by kernel_rfl) (fun _ _ _ h => h) (Or.inl ⟨by rfl, ?_⟩) (by with_reducible assumption) ?_
          rotate_left
          · intro Wz hSw
            have hw := hSw r2 hr2
            clear hSw
            go_simp
            all_goals (with_reducible rfl)
          try simp only [Act.put, List.getElem_toArray, List.getElem_cons_zero, List.getElem_cons_succ, List.setIfInBounds_toArray, List.set_cons_zero, List.set_cons_succ]
          refine wpAnyH_ready (rs := [14]) (by kernel_rfl) (by simp) ?_
          refine AllReadyH.cons (o := _) rfl (fun K hK => ?_) AllReadyH.nil
          go_simp
          refine (KM.out (k + 1 + 1 + 1) (by omega) _ LL.out.src).mono ?_
          rintro e V1 ⟨x, m, q, l, A, N, C, k5, rfl, hG5, hm5, hD5, hk5, hs, hg⟩
          have LN := Lib.hid (LL.out.call hs hg)
          have BN := Lib.hid (BX.out.grown hg (by have := LL.out.hb; intro e; injection e with e; omega))
          have hxs : xp < V0.heap.size ∨ V1.heap.size ≤ xp := .inl BX.out.lt
          have GM := Lib.hid hG5
          have HD5 := Lib.hid hD5
          have hBV : w.heap.size < V0.heap.size := by have := LL.out.hz; omega
          clear hG5 hD5
          clear LL
          have LL := LN
          clear LN
          clear BX
          have BX := BN
          clear BN
          go_wp2_with fail
          refine hK.out _ _ ?_ (fun hHeld => ?_)
          · exact LL.out.wf
          clear hK K
          try simp only [Act.put, List.getElem_toArray, List.getElem_cons_zero, List.getElem_cons_succ, List.setIfInBounds_toArray, List.set_cons_zero, List.set_cons_succ]
          clear hs hg
          have DD := Lib.hid (⟨LL.out.hb, hxz, LL.out.res, BX.out, LL.out.src, LL.out.gr, Only.refl V1⟩ : D7 w V1 V1 b a n c xs k5 xp (.int .i64 0) (.string ⟨#[]⟩) (.string ⟨#[]⟩) (.int .i64 0) (.string ⟨#[]⟩) (.int .i64 0) (.slice none 0 0))
          refine wpAnyH_take (i := 15) (oi := _) (v := ?_) rfl (by kernel_rfl) (by kernel_rfl) (by kernel_rfl) (fun _ _ _ h => h) (Or.inl ⟨by rfl, ?_⟩) (by with_reducible assumption) ?_
          rotate_left
          · intro Wz hSw
            clear hSw
            go_simp
            all_goals (with_reducible rfl)
          try simp only [Act.put, List.getElem_toArray, List.getElem_cons_zero, List.getElem_cons_succ, List.setIfInBounds_toArray, List.set_cons_zero, List.set_cons_succ]
          have e0 := DD.out.box.c0
          have e1 := DD.out.box.c1
          have e2 := DD.out.box.c2
          have e3 := DD.out.box.c3
          have e4 := DD.out.box.c4
          have e5 := DD.out.box.c5
          have e6 := DD.out.box.c6
          have g0 := DD.out.box.fz 0 (by decide)
          have g1 := DD.out.box.fz 1 (by decide)
          have g2 := DD.out.box.fz 2 (by decide)
          have g3 := DD.out.box.fz 3 (by decide)
          have g4 := DD.out.box.fz 4 (by decide)
          have g5 := DD.out.box.fz 5 (by decide)
          have g6 := DD.out.box.fz 6 (by decide)
          have D9 := Lib.hid (DD.out.fill (.int .i64 d) (.string (f r1)) (.string (f r2)) (.int .i64 0) (.string ⟨#[]⟩) (.int .i64 0) (.slice (some x) m q))
          have HF9 := Lib.hid (wAtS (wAtS (wAtS (wAtS (wAtS (wAtS (wAtS LL.out.wf hxw 0 (.int .i64 d)) hxw 1 (.string (f r1))) hxw 2 (.string (f r2))) hxw 3 (.int .i64 0)) hxw 4 (.string ⟨#[]⟩)) hxw 5 (.int .i64 0)) hxw 6 (.slice (some x) m q))
          refine wpAnyH_ready (rs := [17]) (by kernel_rfl) (by simp) ?_
          refine AllReadyH.cons (o := _) rfl (fun K hK => ?_) AllReadyH.nil
          go_simp
          refine hK.out _ _ ?_ (fun hHeld => ?_)
          · exact (fun r hr => HF9.out r hr)
          clear hK K
          try simp only [Act.put, List.getElem_toArray, List.getElem_cons_zero, List.getElem_cons_succ, List.setIfInBounds_toArray, List.set_cons_zero, List.set_cons_succ]
          refine wpAnyH_done (by kernel_rfl) ?_ _
          refine NoPanic.normal ?_
          go_wp2_with fail
          go_meet
          exact ⟨xp, d, r1, r2, x, m, q, l, A, N, C, k5, _, _, rfl, hd.1, hd.2, hr1, hr2, by omega, hm5, D9, GM, HD5, hBV, hxs⟩
      · have LN := Lib.hid (LL.out.below (below1 V0 (.cells #[.int .i64 0, .string ⟨#[]⟩, .string ⟨#[]⟩, .int .i64 0, .string ⟨#[]⟩, .int .i64 0, .slice none 0 0] 26)))
        have BX := Lib.hid (X7.new V0 26 (.int .i64 0) (.string ⟨#[]⟩) (.string ⟨#[]⟩) (.int .i64 0) (.string ⟨#[]⟩) (.int .i64 0) (.slice none 0 0))
        have HRN := Lib.hid (HR.out.below (below1 V0 (.cells #[.int .i64 0, .string ⟨#[]⟩, .string ⟨#[]⟩, .int .i64 0, .string ⟨#[]⟩, .int .i64 0, .slice none 0 0] 26)))
        have hxw : w.heap.size + 1 ≠ V0.heap.size := by have := LL.out.hz; omega
        have hxz : w.heap.size < V0.heap.size := by have := LL.out.hz; omega
        go_simp
        refine hK.out _ _ ?_ (fun hHeld => ?_)
        · exact LN.out.wf
        clear hK K
        try simp only [Act.put, List.getElem_toArray, List.getElem_cons_zero, List.getElem_cons_succ, List.setIfInBounds_toArray, List.set_cons_zero, List.set_cons_succ]
        clear LL
        have LL := LN
        clear LN
        clear HR
        have HR := HRN
        clear HRN
        generalize V0.heap.size = xp at BX hxw hxz ⊢
        generalize V0.alloc (.cells #[.int .i64 0, .string ⟨#[]⟩, .string ⟨#[]⟩, .int .i64 0, .string ⟨#[]⟩, .int .i64 0, .slice none 0 0] 26) = V1 at *
        obtain ⟨V0, hV0⟩ : ∃ V0, V0 = V1 := ⟨_, rfl⟩
        subst hV0
        refine wpAnyH_ready (rs := [2]) (by kernel_rfl) (by simp) ?_
        refine AllReadyH.cons (o := _) rfl (fun K hK => ?_) AllReadyH.nil
        have KP := l1Pick_any b a n c xs k lb 9 _ rfl (by decide) (by decide) (by omega) _ LL.out.src HR.out hlb
        unfold PickRes at KP
        go_simp
        refine KP.mono ?_
        clear KP HR
        rintro e V1 ⟨d, rfl, hdm, hs, hg⟩
        have LN := Lib.hid (LL.out.call hs hg)
        have BN := Lib.hid (BX.out.grown hg (by have := LL.out.hb; intro e; injection e with e; omega))
        have hd : 0 ≤ d ∧ d ≤ 6 := by
          simp only [List.mem_cons, List.not_mem_nil, or_false] at hdm
          omega
        clear hdm
        clear LL
        have LL := LN
        clear LN
        clear BX
        have BX := BN
        clear BN
        go_wp2_with fail
        refine hK.out _ _ ?_ (fun hHeld => ?_)
        · exact LL.out.wf
        clear hK K
        try simp only [Act.put, List.getElem_toArray, List.getElem_cons_zero, List.getElem_cons_succ, List.setIfInBounds_toArray, List.set_cons_zero, List.set_cons_succ]
        clear hs hg
        obtain ⟨V0, hV0⟩ : ∃ V0, V0 = V1 := ⟨_, rfl⟩
        subst hV0
        refine wpAnyH_ready (rs := [5]) (by kernel_rfl) (by simp) ?_
        refine AllReadyH.cons (o := _) rfl (fun K hK => ?_) AllReadyH.nil
        go_simp
        refine (KN.out (k + 1) 4 (by decide) (by decide) (by omega) _ LL.out.src).mono ?_
        rintro e V1 ⟨r1, rfl, hr1, hs, hg⟩
        have hr1 : r1 < 4 := by have := hr1 (by decide); omega
        have LN := Lib.hid (LL.out.call hs hg)
        have BN := Lib.hid (BX.out.grown hg (by have := LL.out.hb; intro e; injection e with e; omega))
        clear LL
        have LL := LN
        clear LN
        clear BX
        have BX := BN
        clear BN
        go_wp2_with fail
        refine hK.out _ _ ?_ (fun hHeld => ?_)
        · exact LL.out.wf
        clear hK K
        try simp only [Act.put, List.getElem_toArray, List.getElem_cons_zero, List.getElem_cons_succ, List.setIfInBounds_toArray, List.set_cons_zero, List.set_cons_succ]
        clear hs hg
        obtain ⟨V0, hV0⟩ : ∃ V0, V0 = V1 := ⟨_, rfl⟩
        subst hV0
        refine wpAnyH_take (i := 6) (oi := _) (v := ?_) rfl (by kernel_rfl) (by kernel_rfl) (by kernel_rfl) (fun _ _ _ h => h) (Or.inl ⟨by rfl, ?_⟩) (by with_reducible assumption) ?_
        rotate_left
        · intro Wz hSw
          clear hSw
          go_simp
          all_goals (with_reducible rfl)
        try simp only [Act.put, List.getElem_toArray, List.getElem_cons_zero, List.getElem_cons_succ, List.setIfInBounds_toArray, List.set_cons_zero, List.set_cons_succ]
        refine wpAnyH_take (i := 7) (oi := _) (v := ?_) rfl (by kernel_rfl) (by kernel_rfl) (by kernel_rfl) (fun _ _ _ h => h) (Or.inl ⟨by rfl, ?_⟩) (by with_reducible assumption) ?_
        rotate_left
        · intro Wz hSw
          have hw := hSw r1 hr1
          clear hSw
          go_simp
          all_goals (with_reducible rfl)
        try simp only [Act.put, List.getElem_toArray, List.getElem_cons_zero, List.getElem_cons_succ, List.setIfInBounds_toArray, List.set_cons_zero, List.set_cons_succ]
        refine wpAnyH_ready (rs := [10]) (by kernel_rfl) (by simp) ?_
        refine AllReadyH.cons (o := _) rfl (fun K hK => ?_) AllReadyH.nil
        go_simp
        refine (KN.out (k + 1 + 1) 4 (by decide) (by decide) (by omega) _ LL.out.src).mono ?_
        rintro e V1 ⟨r2, rfl, hr2, hs, hg⟩
        have hr2 : r2 < 4 := by have := hr2 (by decide); omega
        have LN := Lib.hid (LL.out.call hs hg)
        have BN := Lib.hid (BX.out.grown hg (by have := LL.out.hb; intro e; injection e with e; omega))
        clear LL
        have LL := LN
        clear LN
        clear BX
        have BX := BN
        clear BN
        go_wp2_with fail
        refine hK.out _ _ ?_ (fun hHeld => ?_)
        · exact LL.out.wf
        clear hK K
        try simp only [Act.put, List.getElem_toArray, List.getElem_cons_zero, List.getElem_cons_succ, List.setIfInBounds_toArray, List.set_cons_zero, List.set_cons_succ]
        clear hs hg
        obtain ⟨V0, hV0⟩ : ∃ V0, V0 = V1 := ⟨_, rfl⟩
        subst hV0
        refine wpAnyH_take (i := 11) (oi := _) (v := ?_) rfl (by kernel_rfl) (by kernel_rfl) (by kernel_rfl) (fun _ _ _ h => h) (Or.inl ⟨by rfl, ?_⟩) (by with_reducible assumption) ?_
        rotate_left
        · intro Wz hSw
          clear hSw
          go_simp
          all_goals (with_reducible rfl)
        try simp only [Act.put, List.getElem_toArray, List.getElem_cons_zero, List.getElem_cons_succ, List.setIfInBounds_toArray, List.set_cons_zero, List.set_cons_succ]
        refine wpAnyH_take (i := 12) (oi := _) (v := ?_) rfl (by kernel_rfl) (by kernel_rfl) (by kernel_rfl) (fun _ _ _ h => h) (Or.inl ⟨by rfl, ?_⟩) (by with_reducible assumption) ?_
        rotate_left
        · intro Wz hSw
          have hw := hSw r2 hr2
          clear hSw
          go_simp
          all_goals (with_reducible rfl)
        try simp only [Act.put, List.getElem_toArray, List.getElem_cons_zero, List.getElem_cons_succ, List.setIfInBounds_toArray, List.set_cons_zero, List.set_cons_succ]
        refine wpAnyH_ready (rs := [14]) (by kernel_rfl) (by simp) ?_
        refine AllReadyH.cons (o := _) rfl (fun K hK => ?_) AllReadyH.nil
        go_simp
        refine (KM.out (k + 1 + 1 + 1) (by omega) _ LL.out.src).mono ?_
        rintro e V1 ⟨x, m, q, l, A, N, C, k5, rfl, hG5, hm5, hD5, hk5, hs, hg⟩
        have LN := Lib.hid (LL.out.call hs hg)
        have BN := Lib.hid (BX.out.grown hg (by have := LL.out.hb; intro e; injection e with e; omega))
        have hxs : xp < V0.heap.size ∨ V1.heap.size ≤ xp := .inl BX.out.lt
        have GM := Lib.hid hG5
        have HD5 := Lib.hid hD5
        have hBV : w.heap.size < V0.heap.size := by have := LL.out.hz; omega
        clear hG5 hD5
        clear LL
        have LL := LN
        clear LN
        clear BX
        have BX := BN
        clear BN
        go_wp2_with fail
        refine hK.out _ _ ?_ (fun hHeld => ?_)
        · exact LL.out.wf
        clear hK K
        try simp only [Act.put, List.getElem_toArray, List.getElem_cons_zero, List.getElem_cons_succ, List.setIfInBounds_toArray, List.set_cons_zero, List.set_cons_succ]
        clear hs hg
        have DD := Lib.hid (⟨LL.out.hb, hxz, LL.out.res, BX.out, LL.out.src, LL.out.gr, Only.refl V1⟩ : D7 w V1 V1 b a n c xs k5 xp (.int .i64 0) (.string ⟨#[]⟩) (.string ⟨#[]⟩) (.int .i64 0) (.string ⟨#[]⟩) (.int .i64 0) (.slice none 0 0))
        refine wpAnyH_take (i := 15) (oi := _) (v := ?_) rfl (by kernel_rfl) (by kernel_rfl) (by kernel_rfl) (fun _ _ _ h => h) (Or.inl ⟨by rfl, ?_⟩) (by with_reducible assumption) ?_
        rotate_left
        · intro Wz hSw
          clear hSw
          go_simp
          all_goals (with_reducible rfl)
        try simp only [Act.put, List.getElem_toArray, List.getElem_cons_zero, List.getElem_cons_succ, List.setIfInBounds_toArray, List.set_cons_zero, List.set_cons_succ]
        have e0 := DD.out.box.c0
        have e1 := DD.out.box.c1
        have e2 := DD.out.box.c2
        have e3 := DD.out.box.c3
        have e4 := DD.out.box.c4
        have e5 := DD.out.box.c5
        have e6 := DD.out.box.c6
        have g0 := DD.out.box.fz 0 (by decide)
        have g1 := DD.out.box.fz 1 (by decide)
        have g2 := DD.out.box.fz 2 (by decide)
        have g3 := DD.out.box.fz 3 (by decide)
        have g4 := DD.out.box.fz 4 (by decide)
        have g5 := DD.out.box.fz 5 (by decide)
        have g6 := DD.out.box.fz 6 (by decide)
        have D9 := Lib.hid (DD.out.fill (.int .i64 d) (.string (f r1)) (.string (f r2)) (.int .i64 0) (.string ⟨#[]⟩) (.int .i64 0) (.slice (some x) m q))
        have HF9 := Lib.hid (wAtS (wAtS (wAtS (wAtS (wAtS (wAtS (wAtS LL.out.wf hxw 0 (.int .i64 d)) hxw 1 (.string (f r1))) hxw 2 (.string (f r2))) hxw 3 (.int .i64 0)) hxw 4 (.string ⟨#[]⟩)) hxw 5 (.int .i64 0)) hxw 6 (.slice (some x) m q))
        refine wpAnyH_ready (rs := [17]) (by kernel_rfl) (by simp) ?_
        refine AllReadyH.cons (o := _) rfl (fun K hK => ?_) AllReadyH.nil
        go_simp
        refine hK.out _ _ ?_ (fun hHeld => ?_)
        · exact (fun r hr => HF9.out r hr)
        clear hK K
        try simp only [Act.put, List.getElem_toArray, List.getElem_cons_zero, List.getElem_cons_succ, List.setIfInBounds_toArray, List.set_cons_zero, List.set_cons_succ]
        refine wpAnyH_done (by kernel_rfl) ?_ _
        refine NoPanic.normal ?_
        go_wp2_with fail
        go_meet
        exact ⟨xp, d, r1, r2, x, m, q, l, A, N, C, k5, _, _, rfl, hd.1, hd.2, hr1, hr2, by omega, hm5, D9, GM, HD5, hBV, hxs⟩
    · have LN := Lib.hid (LL.out.below (below1 V0 (.cells #[.int .i64 0, .string ⟨#[]⟩, .string ⟨#[]⟩, .int .i64 0, .string ⟨#[]⟩, .int .i64 0, .slice none 0 0] 26)))
      have BX := Lib.hid (X7.new V0 26 (.int .i64 0) (.string ⟨#[]⟩) (.string ⟨#[]⟩) (.int .i64 0) (.string ⟨#[]⟩) (.int .i64 0) (.slice none 0 0))
      have hxw : w.heap.size + 1 ≠ V0.heap.size := by have := LL.out.hz; omega
      have hxz : w.heap.size < V0.heap.size := by have := LL.out.hz; omega
      go_simp
      refine hK.out _ _ ?_ (fun hHeld => ?_)
      · exact LN.out.wf
      clear hK K
      try simp only [Act.put, List.getElem_toArray, List.getElem_cons_zero, List.getElem_cons_succ, List.setIfInBounds_toArray, List.set_cons_zero, List.set_cons_succ]
      clear LL
      have LL := LN
      clear LN
      generalize V0.heap.size = xp at BX hxw hxz ⊢
      generalize V0.alloc (.cells #[.int .i64 0, .string ⟨#[]⟩, .string ⟨#[]⟩, .int .i64 0, .string ⟨#[]⟩, .int .i64 0, .slice none 0 0] 26) = V1 at *
      obtain ⟨V0, hV0⟩ : ∃ V0, V0 = V1 := ⟨_, rfl⟩
      subst hV0
      refine wpAnyH_ready (rs := [1]) (by kernel_rfl) (by simp) ?_
      refine AllReadyH.cons (o := _) rfl (fun K hK => ?_) AllReadyH.nil
      have LN := Lib.hid (LL.out.below (below1 V0 (.cells #[.int .i64 0, .int .i64 0, .int .i64 0, .int .i64 1, .int .i64 2, .int .i64 3, .int .i64 4, .int .i64 5, .int .i64 6] 2)))
      have HR : Hid (Row (V0.alloc (.cells #[.int .i64 0, .int .i64 0, .int .i64 0, .int .i64 1, .int .i64 2, .int .i64 3, .int .i64 4, .int .i64 5, .int .i64 6] 2)) .i64 (.slice (some ⟨V0.heap.size, 0, none⟩) 9 9) [0, 0, 0, 1, 2, 3, 4, 5, 6]) := Lib.hid (lit_row V0 2 .i64 [0, 0, 0, 1, 2, 3, 4, 5, 6] 9 rfl (by decide))
      have hlb : V0.heap.size ≠ b := by have := LL.out.hz; have := LL.out.hb; omega
      have BN := Lib.hid (BX.out.below (below1 V0 (.cells #[.int .i64 0, .int .i64 0, .int .i64 0, .int .i64 1, .int .i64 2, .int .i64 3, .int .i64 4, .int .i64 5, .int .i64 6] 2)))
      go_simp
      refine hK.out _ _ ?_ (fun hHeld => ?_)
      · exact LN.out.wf
      clear hK K
      try simp only [Act.put, List.getElem_toArray, List.getElem_cons_zero, List.getElem_cons_succ, List.setIfInBounds_toArray, List.set_cons_zero, List.set_cons_succ]
      clear LL
      have LL := LN
      clear LN
      clear BX
      have BX := BN
      clear BN
      generalize V0.heap.size = lb at HR hlb ⊢
      generalize V0.alloc (.cells #[.int .i64 0, .int .i64 0, .int .i64 0, .int .i64 1, .int .i64 2, .int .i64 3, .int .i64 4, .int .i64 5, .int .i64 6] 2) = V1 at *
      obtain ⟨V0, hV0⟩ : ∃ V0, V0 = V1 := ⟨_, rfl⟩
      subst hV0
      refine wpAnyH_ready (rs := [2]) (by kernel_rfl) (by simp) ?_
      refine AllReadyH.cons (o := _) rfl (fun K hK => ?_) AllReadyH.nil
      have KP := l1Pick_any b a n c xs k lb 9 _ rfl (by decide) (by decide) (by omega) _ LL.out.src HR.out hlb
      unfold PickRes at KP
      go_simp
      refine KP.mono ?_
      clear KP HR
      rintro e V1 ⟨d, rfl, hdm, hs, hg⟩
      have LN := Lib.hid (LL.out.call hs hg)
      have BN := Lib.hid (BX.out.grown hg (by have := LL.out.hb; intro e; injection e with e; omega))
      have hd : 0 ≤ d ∧ d ≤ 6 := by
        simp only [List.mem_cons, List.not_mem_nil, or_false] at hdm
        omega
      clear hdm
      clear LL
      have LL := LN
      clear LN
      clear BX
      have BX := BN
      clear BN
      go_wp2_with fail
      refine hK.out _ _ ?_ (fun hHeld => ?_)
      · exact LL.out.wf
      clear hK K
      try simp only [Act.put, List.getElem_toArray, List.getElem_cons_zero, List.getElem_cons_succ, List.setIfInBounds_toArray, List.set_cons_zero, List.set_cons_succ]
      clear hs hg
      obtain ⟨V0, hV0⟩ : ∃ V0, V0 = V1 := ⟨_, rfl⟩
      subst hV0
      refine wpAnyH_ready (rs := [5]) (by kernel_rfl) (by simp) ?_
      refine AllReadyH.cons (o := _) rfl (fun K hK => ?_) AllReadyH.nil
      go_simp
      refine (KN.out (k + 1) 4 (by decide) (by decide) (by omega) _ LL.out.src).mono ?_
      rintro e V1 ⟨r1, rfl, hr1, hs, hg⟩
      have hr1 : r1 < 4 := by have := hr1 (by decide); omega
      have LN := Lib.hid (LL.out.call hs hg)
      have BN := Lib.hid (BX.out.grown hg (by have := LL.out.hb; intro e; injection e with e; omega))
      clear LL
      have LL := LN
      clear LN
      clear BX
      have BX := BN
      clear BN
      go_wp2_with fail
      refine hK.out _ _ ?_ (fun hHeld => ?_)
      · exact LL.out.wf
      clear hK K
      try simp only [Act.put, List.getElem_toArray, List.getElem_cons_zero, List.getElem_cons_succ, List.setIfInBounds_toArray, List.set_cons_zero, List.set_cons_succ]
      clear hs hg
      obtain ⟨V0, hV0⟩ : ∃ V0, V0 = V1 := ⟨_, rfl⟩
      subst hV0
      refine wpAnyH_take (i := 6) (oi := _) (v := ?_) rfl (by kernel_rfl) (by kernel_rfl) (by kernel_rfl) (fun _ _ _ h => h) (Or.inl ⟨by rfl, ?_⟩) (by with_reducible assumption) ?_
      rotate_left
      · intro Wz hSw
        clear hSw
        go_simp
        all_goals (with_reducible rfl)
      try simp only [Act.put, List.getElem_toArray, List.getElem_cons_zero, List.getElem_cons_succ, List.setIfInBounds_toArray, List.set_cons_zero, List.set_cons_succ]
      refine wpAnyH_take (i := 7) (oi := _) (v := ?_) rfl (by kernel_rfl) (by kernel_rfl) (by kernel_rfl) (fun _ _ _ h => h) (Or.inl ⟨by rfl, ?_⟩) (by with_reducible assumption) ?_
      rotate_left
      · intro Wz hSw
        have hw := hSw r1 hr1
        clear hSw
        go_simp
        all_goals (with_reducible rfl)
      try simp only [Act.put, List.getElem_toArray, List.getElem_cons_zero, List.getElem_cons_succ, List.setIfInBounds_toArray, List.set_cons_zero, List.set_cons_succ]
      refine wpAnyH_ready (rs := [10]) (by kernel_rfl) (by simp) ?_
      refine AllReadyH.cons (o := _) rfl (fun K hK => ?_) AllReadyH.nil
      go_simp
      refine (KN.out (k + 1 + 1) 4 (by decide) (by decide) (by omega) _ LL.out.src).mono ?_
      rintro e V1 ⟨r2, rfl, hr2, hs, hg⟩
      have hr2 : r2 < 4 := by have := hr2 (by decide); omega
      have LN := Lib.hid (LL.out.call hs hg)
      have BN := Lib.hid (BX.out.grown hg (by have := LL.out.hb; intro e; injection e with e; omega))
      clear LL
      have LL := LN
      clear LN
      clear BX
      have BX := BN
      clear BN
      go_wp2_with fail
      refine hK.out _ _ ?_ (fun hHeld => ?_)
      · exact LL.out.wf
      clear hK K
      try simp only [Act.put, List.getElem_toArray, List.getElem_cons_zero, List.getElem_cons_succ, List.setIfInBounds_toArray, List.set_cons_zero, List.set_cons_succ]
      clear hs hg
      obtain ⟨V0, hV0⟩ : ∃ V0, V0 = V1 := ⟨_, rfl⟩
      subst hV0
      refine wpAnyH_take (i := 11) (oi := _) (v := ?_) rfl (by kernel_rfl) (by kernel_rfl) (by kernel_rfl) (fun _ _ _ h => h) (Or.inl ⟨by rfl, ?_⟩) (by with_reducible assumption) ?_
      rotate_left
      · intro Wz hSw
        clear hSw
        go_simp
        all_goals (with_reducible rfl)
      try simp only [Act.put, List.getElem_toArray, List.getElem_cons_zero, List.getElem_cons_succ, List.setIfInBounds_toArray, List.set_cons_zero, List.set_cons_succ]
      refine wpAnyH_take (i := 12) (oi := _) (v := ?_) rfl (by kernel_rfl) (by kernel_rfl) (by kernel_rfl) (fun _ _ _ h => h) (Or.inl ⟨by rfl, ?_⟩) (by with_reducible assumption) ?_
      rotate_left
      · intro Wz hSw
        have hw := hSw r2 hr2
        clear hSw
        go_simp
        all_goals (with_reducible rfl)
      try simp only [Act.put, List.getElem_toArray, List.getElem_cons_zero, List.getElem_cons_succ, List.setIfInBounds_toArray, List.set_cons_zero, List.set_cons_succ]
      refine wpAnyH_ready (rs := [14]) (by kernel_rfl) (by simp) ?_
      refine AllReadyH.cons (o := _) rfl (fun K hK => ?_) AllReadyH.nil
      go_simp
      refine (KM.out (k + 1 + 1 + 1) (by omega) _ LL.out.src).mono ?_
      rintro e V1 ⟨x, m, q, l, A, N, C, k5, rfl, hG5, hm5, hD5, hk5, hs, hg⟩
      have LN := Lib.hid (LL.out.call hs hg)
      have BN := Lib.hid (BX.out.grown hg (by have := LL.out.hb; intro e; injection e with e; omega))
      have hxs : xp < V0.heap.size ∨ V1.heap.size ≤ xp := .inl BX.out.lt
      have GM := Lib.hid hG5
      have HD5 := Lib.hid hD5
      have hBV : w.heap.size < V0.heap.size := by have := LL.out.hz; omega
      clear hG5 hD5
      clear LL
      have LL := LN
      clear LN
      clear BX
      have BX := BN
      clear BN
      go_wp2_with fail
      refine hK.out _ _ ?_ (fun hHeld => ?_)
      · exact LL.out.wf
      clear hK K
      try simp only [Act.put, List.getElem_toArray, List.getElem_cons_zero, List.getElem_cons_succ, List.setIfInBounds_toArray, List.set_cons_zero, List.set_cons_succ]
      clear hs hg
      have DD := Lib.hid (⟨LL.out.hb, hxz, LL.out.res, BX.out, LL.out.src, LL.out.gr, Only.refl V1⟩ : D7 w V1 V1 b a n c xs k5 xp (.int .i64 0) (.string ⟨#[]⟩) (.string ⟨#[]⟩) (.int .i64 0) (.string ⟨#[]⟩) (.int .i64 0) (.slice none 0 0))
      refine wpAnyH_take (i := 15) (oi := _) (v := ?_) rfl (by kernel_rfl) (by kernel_rfl) (by kernel_rfl) (fun _ _ _ h => h) (Or.inl ⟨by rfl, ?_⟩) (by with_reducible assumption) ?_
      rotate_left
      · intro Wz hSw
        clear hSw
        go_simp
        all_goals (with_reducible rfl)
      try simp only [Act.put, List.getElem_toArray, List.getElem_cons_zero, List.getElem_cons_succ, List.setIfInBounds_toArray, List.set_cons_zero, List.set_cons_succ]
      have e0 := DD.out.box.c0
      have e1 := DD.out.box.c1
      have e2 := DD.out.box.c2
      have e3 := DD.out.box.c3
      have e4 := DD.out.box.c4
      have e5 := DD.out.box.c5
      have e6 := DD.out.box.c6
      have g0 := DD.out.box.fz 0 (by decide)
      have g1 := DD.out.box.fz 1 (by decide)
      have g2 := DD.out.box.fz 2 (by decide)
      have g3 := DD.out.box.fz 3 (by decide)
      have g4 := DD.out.box.fz 4 (by decide)
      have g5 := DD.out.box.fz 5 (by decide)
      have g6 := DD.out.box.fz 6 (by decide)
      have D9 := Lib.hid (DD.out.fill (.int .i64 d) (.string (f r1)) (.string (f r2)) (.int .i64 0) (.string ⟨#[]⟩) (.int .i64 0) (.slice (some x) m q))
      have HF9 := Lib.hid (wAtS (wAtS (wAtS (wAtS (wAtS (wAtS (wAtS LL.out.wf hxw 0 (.int .i64 d)) hxw 1 (.string (f r1))) hxw 2 (.string (f r2))) hxw 3 (.int .i64 0)) hxw 4 (.string ⟨#[]⟩)) hxw 5 (.int .i64 0)) hxw 6 (.slice (some x) m q))
      refine wpAnyH_ready (rs := [17]) (by kernel_rfl) (by simp) ?_
      refine AllReadyH.cons (o := _) rfl (fun K hK => ?_) AllReadyH.nil
      go_simp
      refine hK.out _ _ ?_ (fun hHeld => ?_)
      · exact (fun r hr => HF9.out r hr)
      clear hK K
      try simp only [Act.put, List.getElem_toArray, List.getElem_cons_zero, List.getElem_cons_succ, List.setIfInBounds_toArray, List.set_cons_zero, List.set_cons_succ]
      refine wpAnyH_done (by kernel_rfl) ?_ _
      refine NoPanic.normal ?_
      go_wp2_with fail
      go_meet
      exact ⟨xp, d, r1, r2, x, m, q, l, A, N, C, k5, _, _, rfl, hd.1, hd.2, hr1, hr2, by omega, hm5, D9, GM, HD5, hBV, hxs⟩
  case rest =>
    obtain ⟨xp, d, r1, r2, x, m, q, l, A, N, C, k5, B, V, rfl, hd0, hd6, hr1, hr2, hk5, hm5, DD, GM, HD5, hBV, hxs⟩ := hcut
    clear LL KM
    have hs1 := hfs r1 hr1
    have hs2 := hfs r2 hr2
    have hl5 := GM.out.len
    generalize f r1 = f1 at *
    generalize f r2 = f2 at *
    have d0 := DD.out.box.c0
    have lx := DD.out.box.lt
    by_cases hd1 : d ≤ 1
    · go_wp2_with fail
      refine (KD.out k5 (by omega) _ DD.out.src).mono ?_
      rintro e w1 ⟨s, k6, rfl, hs, hk6, hsr, hg⟩
      have D1 := Lib.hid (DD.out.call hsr hg)
      have g4 := D1.out.box.fz 4 (by decide)
      have c4 := D1.out.box.c4
      have D2 := Lib.hid (D1.out.set 4 (.string s) (by decide) ⟨rfl, rfl, rfl, rfl, rfl, rfl, rfl⟩)
      clear hsr hg d0 lx
      have lx := D1.out.box.lt
      have d0 := D2.out.box.c0
      have b0 := D1.out.box.c0
      by_cases hd2 : d = 0
      · subst hd2
        go_wp2_with fail
        refine (KN.out k6 5 (by decide) (by decide) (by omega) _ D2.out.src).mono ?_
        rintro e w3 ⟨r3, rfl, hr3, hsr, hg⟩
        have hr3 : r3 < 5 := by have := hr3 (by decide); omega
        have D3 := Lib.hid (D2.out.call hsr hg)
        have g3 := D3.out.box.fz 3 (by decide)
        have c3 := D3.out.box.c3
        have D4 := Lib.hid (D3.out.set 3 (.int .i64 r3) (by decide) ⟨rfl, rfl, rfl, rfl, rfl, rfl, rfl⟩)
        clear hsr hg d0 lx b0
        have lx := D4.out.box.lt
        have lx3 := D3.out.box.lt
        generalize hw4 : w3.setCell ⟨xp, 3, none⟩ (.int .i64 r3) = w4 at D4 lx
        have KP := l1Pick_any b a n c xs (k6 + 1) w4.heap.size 7 [0, 1, -1, 127, -128, 64, 5] rfl (by decide) (by decide) (by omega) _ (D4.out.src.alloc (.cells #[.int .i64 0, .int .i64 1, .int .i64 (-1), .int .i64 127, .int .i64 (-128), .int .i64 64, .int .i64 5] 2)) (lit_row w4 _ .i64 [0, 1, -1, 127, -128, 64, 5] 7 rfl (by decide)) (by have := D4.out.src.lt; omega)
        unfold PickRes at KP
        go_wp2_with fail
        clear hw4
        refine KP.mono ?_
        clear KP
        rintro e w5 ⟨pr, rfl, hpr, hsr, hg⟩
        have hpr : -128 ≤ pr ∧ pr ≤ 127 := by
          simp only [List.mem_cons, List.not_mem_nil, or_false] at hpr
          omega
        have D5 := Lib.hid ((D4.out.below (below1 w4 (.cells #[.int .i64 0, .int .i64 1, .int .i64 (-1), .int .i64 127, .int .i64 (-128), .int .i64 64, .int .i64 5] 2))).call hsr hg)
        have c5 := D5.out.box.c5
        have g5 := D5.out.box.fz 5 (by decide)
        have D6 := Lib.hid (D5.out.set 5 (.int .i64 pr) (by decide) ⟨rfl, rfl, rfl, rfl, rfl, rfl, rfl⟩)
        have lx5 := D5.out.box.lt
        clear hsr hg g3 c3 lx lx3 g4 c4
        go_upto_region 8 with fail
        generalize w5.setCell ⟨xp, 5, none⟩ (.int .i64 pr) = w6 at *
        clear c5 g5 lx5
        obtain ⟨-, d0, d1, d2, d3, d4, d5, d6, -⟩ := D6.out.box
        obtain ⟨-, e0, e1, e2, e3, e4, e5, e6, -⟩ := D6.out.res
        have g0 := D6.out.res.fz 0 (by decide)
        have g1 := D6.out.res.fz 1 (by decide)
        have g2 := D6.out.res.fz 2 (by decide)
        have g3 := D6.out.res.fz 3 (by decide)
        have g4 := D6.out.res.fz 4 (by decide)
        have g5 := D6.out.res.fz 5 (by decide)
        have g6 := D6.out.res.fz 6 (by decide)
        obtain ⟨Zx, Zs, Zg, Zo⟩ := D6.out.done
        have z0 := Zx.c0
        have z1 := Zx.c1
        have z2 := Zx.c2
        have z3 := Zx.c3
        have z4 := Zx.c4
        have z5 := Zx.c5
        have z6 := Zx.c6
        have GI := Lib.hid (D7.its GM.out Zo D6.out.hb hBV hxs)
        have ZS := Lib.hid Zs
        have ZG := Lib.hid Zg
        clear Zx Zo Zs Zg
        go_wp2
        refine bodyPost_ret (v := .agg #[.int .i64 0, .string f1, .string f2, .int .i64 r3, .string s, .int .i64 pr, .slice (some x) m q]) (by simp [results, Tryz.results34, go_sem, z0, z1, z2, z3, z4, z5, z6, e0, e1, e2, e3, e4, e5, e6]) rfl (by unfold PrDrawnT; exact ⟨⟨0, f1, f2, r3, s, pr, l⟩, x, m, q, A, N, C, k6 + 1 + 1, rfl, GI.out, hm5, ⟨⟨by show -1000 ≤ (0 : Int); omega, by show (0 : Int) ≤ 1000; omega⟩, by show f1.size ≤ 61; omega, by show f2.size ≤ 61; omega, ⟨by show -1000 ≤ (r3 : Int); omega, by show (r3 : Int) ≤ 1000; omega⟩, by show s.size ≤ 61; omega, ⟨by show -1000 ≤ (pr : Int); omega, by show (pr : Int) ≤ 1000; omega⟩, by show l.length ≤ 60; omega, HD5.out⟩, by omega, ZS.out, ZG.out, ⟨⟨by show (0 : Int) ≤ (0 : Int); omega, by show (0 : Int) ≤ 6; omega⟩, ⟨by show (0 : Int) ≤ (r3 : Int); omega, by show (r3 : Int) ≤ 4; omega⟩, ⟨by show -128 ≤ (pr : Int); omega, by show (pr : Int) ≤ 127; omega⟩⟩⟩)
      · have hd3 : ¬ (d = 0) := hd2
        have hd4 : (d == 0) = false := by rw [beq_eq_false_iff_ne]; exact hd2
        go_upto_region 8 with fail
        generalize w1.setCell ⟨xp, 4, none⟩ (.string s) = w6 at *
        clear g4 c4 d0 lx b0
        obtain ⟨-, d0, d1, d2, d3, d4, d5, d6, -⟩ := D2.out.box
        obtain ⟨-, e0, e1, e2, e3, e4, e5, e6, -⟩ := D2.out.res
        have g0 := D2.out.res.fz 0 (by decide)
        have g1 := D2.out.res.fz 1 (by decide)
        have g2 := D2.out.res.fz 2 (by decide)
        have g3 := D2.out.res.fz 3 (by decide)
        have g4 := D2.out.res.fz 4 (by decide)
        have g5 := D2.out.res.fz 5 (by decide)
        have g6 := D2.out.res.fz 6 (by decide)
        obtain ⟨Zx, Zs, Zg, Zo⟩ := D2.out.done
        have z0 := Zx.c0
        have z1 := Zx.c1
        have z2 := Zx.c2
        have z3 := Zx.c3
        have z4 := Zx.c4
        have z5 := Zx.c5
        have z6 := Zx.c6
        have GI := Lib.hid (D7.its GM.out Zo D2.out.hb hBV hxs)
        have ZS := Lib.hid Zs
        have ZG := Lib.hid Zg
        clear Zx Zo Zs Zg
        go_wp2
        refine bodyPost_ret (v := .agg #[.int .i64 d, .string f1, .string f2, .int .i64 0, .string s, .int .i64 0, .slice (some x) m q]) (by simp [results, Tryz.results34, go_sem, z0, z1, z2, z3, z4, z5, z6, e0, e1, e2, e3, e4, e5, e6]) rfl (by unfold PrDrawnT; exact ⟨⟨d, f1, f2, 0, s, 0, l⟩, x, m, q, A, N, C, k6, rfl, GI.out, hm5, ⟨⟨by show -1000 ≤ (d : Int); omega, by show (d : Int) ≤ 1000; omega⟩, by show f1.size ≤ 61; omega, by show f2.size ≤ 61; omega, ⟨by show -1000 ≤ (0 : Int); omega, by show (0 : Int) ≤ 1000; omega⟩, by show s.size ≤ 61; omega, ⟨by show -1000 ≤ (0 : Int); omega, by show (0 : Int) ≤ 1000; omega⟩, by show l.length ≤ 60; omega, HD5.out⟩, by omega, ZS.out, ZG.out, ⟨⟨by show (0 : Int) ≤ (d : Int); omega, by show (d : Int) ≤ 6; omega⟩, ⟨by show (0 : Int) ≤ (0 : Int); omega, by show (0 : Int) ≤ 4; omega⟩, ⟨by show -128 ≤ (0 : Int); omega, by show (0 : Int) ≤ 127; omega⟩⟩⟩)
    · have hd3 : ¬ (d = 0) := by omega
      have hd4 : (d == 0) = false := by rw [beq_eq_false_iff_ne]; exact hd3
      go_upto_region 8 with fail
      clear d0 lx
      obtain ⟨-, d0, d1, d2, d3, d4, d5, d6, -⟩ := DD.out.box
      obtain ⟨-, e0, e1, e2, e3, e4, e5, e6, -⟩ := DD.out.res
      have g0 := DD.out.res.fz 0 (by decide)
      have g1 := DD.out.res.fz 1 (by decide)
      have g2 := DD.out.res.fz 2 (by decide)
      have g3 := DD.out.res.fz 3 (by decide)
      have g4 := DD.out.res.fz 4 (by decide)
      have g5 := DD.out.res.fz 5 (by decide)
      have g6 := DD.out.res.fz 6 (by decide)
      obtain ⟨Zx, Zs, Zg, Zo⟩ := DD.out.done
      have z0 := Zx.c0
      have z1 := Zx.c1
      have z2 := Zx.c2
      have z3 := Zx.c3
      have z4 := Zx.c4
      have z5 := Zx.c5
      have z6 := Zx.c6
      have GI := Lib.hid (D7.its GM.out Zo DD.out.hb hBV hxs)
      have ZS := Lib.hid Zs
      have ZG := Lib.hid Zg
      clear Zx Zo Zs Zg
      go_wp2
      refine bodyPost_ret (v := .agg #[.int .i64 d, .string f1, .string f2, .int .i64 0, .string ⟨#[]⟩, .int .i64 0, .slice (some x) m q]) (by simp [results, Tryz.results34, go_sem, z0, z1, z2, z3, z4, z5, z6, e0, e1, e2, e3, e4, e5, e6]) rfl (by unfold PrDrawnT; exact ⟨⟨d, f1, f2, 0, ⟨#[]⟩, 0, l⟩, x, m, q, A, N, C, k5, rfl, GI.out, hm5, ⟨⟨by show -1000 ≤ (d : Int); omega, by show (d : Int) ≤ 1000; omega⟩, by show f1.size ≤ 61; omega, by show f2.size ≤ 61; omega, ⟨by show -1000 ≤ (0 : Int); omega, by show (0 : Int) ≤ 1000; omega⟩, by show (0 : Nat) ≤ 61; omega, ⟨by show -1000 ≤ (0 : Int); omega, by show (0 : Int) ≤ 1000; omega⟩, by show l.length ≤ 60; omega, HD5.out⟩, by omega, ZS.out, ZG.out, ⟨⟨by show (0 : Int) ≤ (d : Int); omega, by show (d : Int) ≤ 6; omega⟩, ⟨by show (0 : Int) ≤ (0 : Int); omega, by show (0 : Int) ≤ 4; omega⟩, ⟨by show -128 ≤ (0 : Int); omega, by show (0 : Int) ≤ 127; omega⟩⟩⟩)
theorem l7Draw_any (b : Nat) (a : Option Addr) (n c : Nat) (xs : List Int) (k : Nat) (hk : k + 9000 < 1000000) (w : World) (h : Src w b a n c xs k) :
    Calls Tryz.prog 34 #[.pointer (some ⟨b, 0, none⟩)] w (PrDrawn w b a n c xs k) :=
  (l7DrawT_any b a n c xs k hk w h).mono fun _ _ ⟨y, x, m, q, A, N, C, k', e, h1, h2, h3, h4, h5, h6, _⟩ => ⟨y, x, m, q, A, N, C, k', e, h1, h2, h3, h4, h5, h6⟩
end Go.Proofs.YtjkmgpomcnplnaaGreatDoor
