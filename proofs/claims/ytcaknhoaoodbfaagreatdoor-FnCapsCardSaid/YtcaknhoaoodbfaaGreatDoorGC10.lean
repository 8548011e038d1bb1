/- The laws' draws of identities. -/
import Derived.Test.YtcaknhoaoodbfaaGreatDoorGC2
import Derived.Test.YtcaknhoaoodbfaaGreatDoorGC6
import Derived.Test.YtcaknhoaoodbfaaGreatDoorGC7
import Derived.Test.YtcaknhoaoodbfaaGreatDoorGC9
import Derived.Deep.AppendLies
namespace Go.Proofs.YtcaknhoaoodbfaaGreatDoor
open Go.ChangeShapes Go.WideShapes Go.ChangeAt Go.RowKit
set_option linter.unusedVariables false
set_option linter.unusedSimpArgs false

/-- a row of texts -/
def WAt (w : World) (nb k : Nat) (f : Nat → ByteArray) : Prop := ∀ r, r < k → w.cell? ⟨nb, r, none⟩ = some (.string (f r))
theorem wat_new (w : World) (arr : Array Value) (e : TypeId) (m k : Nat) (hall : (List.range k).all (fun r => isWord m arr[r]?) = true) :
    ∃ f : Nat → ByteArray, WAt (w.alloc (.cells arr e)) w.heap.size k f ∧ ∀ r, r < k → (f r).size ≤ m := by
  have h := words_of (Below.refl (w.alloc (.cells arr e)).heap.size (w.alloc (.cells arr e))) m k hall
  refine ⟨fun r => if hr : r < k then (h r hr).choose else ByteArray.empty, fun r hr => ?_, fun r hr => ?_⟩
  · simp only [hr, dif_pos]
    exact (h r hr).choose_spec.1
  · simp only [hr, dif_pos]
    exact (h r hr).choose_spec.2
theorem wAtG {w w' : World} {nb k : Nat} {f : Nat → ByteArray} {row : Option Nat} (h : WAt w nb k f) (hg : w.grownBy w' row) (hne : some nb ≠ row) : WAt w' nb k f := fun r hr => hg.cell (h r hr) hne
theorem wAtA {w : World} {nb k : Nat} {f : Nat → ByteArray} (h : WAt w nb k f) (o : Obj) : WAt (w.alloc o) nb k f := fun r hr => ((below1 w o).cell (World.block_lt_of_cell? _ _ (h r hr))).trans (h r hr)
theorem wAtS {w : World} {nb k : Nat} {f : Nat → ByteArray} (h : WAt w nb k f) {x : Nat} (hx : nb ≠ x) (i : Nat) (u : Value) : WAt (w.setCell ⟨x, i, none⟩ u) nb k f := fun r hr => (World.cell?_setCell_other _ _ _ _ (fun e => hx (congrArg Addr.block e).symm)).trans (h r hr)
theorem wAtF {w : World} {nb k : Nat} {f : Nat → ByteArray} (h : WAt w nb k f) {x : Nat} (hx : nb ≠ x) (u0 u1 u2 u3 : Value) : WAt ((((w.setCell ⟨x, 0, none⟩ u0).setCell ⟨x, 1, none⟩ u1).setCell ⟨x, 2, none⟩ u2).setCell ⟨x, 3, none⟩ u3) nb k f :=
  wAtS (wAtS (wAtS (wAtS h hx _ _) hx _ _) hx _ _) hx _ _
/-- a box of four cells -/
structure X4 (w : World) (x : Nat) (v0 v1 v2 v3 : Value) : Prop where
  lt : x < w.heap.size
  c0 : w.cell? ⟨x, 0, none⟩ = some v0
  c1 : w.cell? ⟨x, 1, none⟩ = some v1
  c2 : w.cell? ⟨x, 2, none⟩ = some v2
  c3 : w.cell? ⟨x, 3, none⟩ = some v3
  fz : ∀ i, i < 4 → w.frozen? ⟨x, i, none⟩ = false
theorem X4.grown {w w' : World} {x : Nat} {v0 v1 v2 v3 : Value} {row : Option Nat} (h : X4 w x v0 v1 v2 v3) (hg : w.grownBy w' row) (hne : some x ≠ row) : X4 w' x v0 v1 v2 v3 :=
  ⟨Nat.lt_of_lt_of_le h.lt hg.size, hg.cell h.c0 hne, hg.cell h.c1 hne, hg.cell h.c2 hne, hg.cell h.c3 hne, fun i hi => (hg.frozen_far ⟨x, i, none⟩ h.lt hne).trans (h.fz i hi)⟩
theorem X4.new (w : World) (T : TypeId) (v0 v1 v2 v3 : Value) : X4 (w.alloc (.cells #[v0, v1, v2, v3] T)) w.heap.size v0 v1 v2 v3 :=
  ⟨by simp, by simp, by simp, by simp, by simp, fun i _ => by simp⟩
theorem set_at4 {w : World} {x i : Nat} {u v : Value} (h : w.cell? ⟨x, i, none⟩ = some u) : (w.setCell ⟨x, i, none⟩ v).cell? ⟨x, i, none⟩ = some v := World.cell?_setCell_same' _ _ _ (by rw [h]; rfl)
theorem X4.set {w : World} {x : Nat} {v0 v1 v2 v3 : Value} (h : X4 w x v0 v1 v2 v3) (i : Nat) (v : Value) (hi : i < 4) : X4 (w.setCell ⟨x, i, none⟩ v) x (if i = 0 then v else v0) (if i = 1 then v else v1) (if i = 2 then v else v2) (if i = 3 then v else v3) := by
  have key : ∀ (j : Nat) (u : Value), w.cell? ⟨x, j, none⟩ = some u → (w.setCell ⟨x, i, none⟩ v).cell? ⟨x, j, none⟩ = some (if i = j then v else u) := by
    intro j u hu
    by_cases e : i = j
    · subst e
      rw [if_pos rfl]
      exact set_at4 hu
    · rw [if_neg e]
      exact (World.cell?_setCell_other _ _ _ _ (fun e2 => e (congrArg Addr.off e2))).trans hu
  exact ⟨by simpa using h.lt, key 0 _ h.c0, key 1 _ h.c1, key 2 _ h.c2, key 3 _ h.c3, fun k hk => by rw [World.frozen?_setCell]; exact h.fz k hk⟩
theorem X4.fill {w : World} {x : Nat} {v0 v1 v2 v3 : Value} (h : X4 w x v0 v1 v2 v3) (u0 u1 u2 u3 : Value) : X4 ((((w.setCell ⟨x, 0, none⟩ u0).setCell ⟨x, 1, none⟩ u1).setCell ⟨x, 2, none⟩ u2).setCell ⟨x, 3, none⟩ u3) x u0 u1 u2 u3 := by
  have := (((h.set 0 u0 (by decide)).set 1 u1 (by decide)).set 2 u2 (by decide)).set 3 u3 (by decide)
  simpa using this
theorem grown_set4 (W : World) (p : Addr) (v : Value) : W.grownBy (W.setCell p v) (some p.block) := grown_setC W p.block p.off v 0 |> fun h => by
  refine ⟨rfl, rfl, rfl, by simp [World.setCell], fun k _ hk => Below.heap_setCell _ _ _ k (fun e => hk (by rw [e]))⟩
theorem grown_fill4 {w w1 : World} {b x : Nat} (h : w.grownBy w1 (some b)) (hx : w.heap.size ≤ x) (u0 u1 u2 u3 : Value) : w.grownBy ((((w1.setCell ⟨x, 0, none⟩ u0).setCell ⟨x, 1, none⟩ u1).setCell ⟨x, 2, none⟩ u2).setCell ⟨x, 3, none⟩ u3) (some b) := by
  have key : ∀ (W : World) (i : Nat) (u : Value), w.grownBy W (some b) → w.grownBy (W.setCell ⟨x, i, none⟩ u) (some b) := fun W i u hW =>
    ⟨hW.os, hW.tape, hW.output, by have := hW.size; simpa [World.setCell] using this, fun k hk hne => (Below.heap_setCell W ⟨x, i, none⟩ u k (by show k ≠ x; omega)).trans (hW.block k hk hne)⟩
  exact key _ _ _ (key _ _ _ (key _ _ _ (key _ _ _ h)))
theorem Src.fill4 {w : World} {b x : Nat} {a : Option Addr} {n c : Nat} {xs : List Int} {k : Nat} (h : Src w b a n c xs k) (hx : b < x) (u0 u1 u2 u3 : Value) : Src ((((w.setCell ⟨x, 0, none⟩ u0).setCell ⟨x, 1, none⟩ u1).setCell ⟨x, 2, none⟩ u2).setCell ⟨x, 3, none⟩ u3) b a n c xs k := by
  have key : ∀ (W : World) (i : Nat) (u : Value), Src W b a n c xs k → Src (W.setCell ⟨x, i, none⟩ u) b a n c xs k := fun W i u hW => hW.grown (grown_set4 W ⟨x, i, none⟩ u) (fun j e => by cases e; exact hx)
  exact key _ _ _ (key _ _ _ (key _ _ _ (key _ _ _ h)))

/-- an identity is drawn -/
def IdDrawn (w : World) (b : Nat) (a : Option Addr) (n c : Nat) (xs : List Int) (k : Nat) (en : Ending) (w' : World) : Prop :=
  ∃ (x : Ident) (k' : Nat), en = .returned (.agg #[.string x.cat, .string x.kind, .string x.lang, .string x.name]) ∧ x.cat.size ≤ 60 ∧ x.kind.size ≤ 60 ∧ x.lang.size ≤ 60 ∧ x.name.size ≤ 60 ∧ k' ≤ k + 7 ∧ Src w' b a n c xs k' ∧ w.grownBy w' (some b)

set_option maxRecDepth 100000 in
set_option maxHeartbeats 6400000 in
theorem l9DrawIdentity_any (b : Nat) (a : Option Addr) (n c : Nat) (xs : List Int) (k : Nat) (hk : k + 20 < 1000000) (w : World) (h : Src w b a n c xs k) :
    Calls Tryz.prog 95 #[.pointer (some ⟨b, 0, none⟩)] w (IdDrawn w b a n c xs k) := by
  unfold IdDrawn
  have hblt := h.lt
  have HSs := Lib.hid h
  have KN3 := Lib.hid (fun (k : Nat) (hk : k < 1000000) (W : World) (h : Src W b a n c xs k) => l1Next_any b a n c xs k 3 (by decide) (by decide) hk W h)
  have KN5 := Lib.hid (fun (k : Nat) (hk : k < 1000000) (W : World) (h : Src W b a n c xs k) => l1Next_any b a n c xs k 5 (by decide) (by decide) hk W h)
  have KD := Lib.hid (fun (k : Nat) (hk : k + 4 < 1000000) (W : World) (h : Src W b a n c xs k) => l1DrawText_any b a n c xs k 3 (by decide) (by omega) W h)
  unfold NextRes at KN3 KN5
  unfold TextDrawn at KD
  clear h
  go_enter Tryz.func95, Tryz.ntmps95
  go_wp2
  obtain ⟨f, hf, hfs⟩ := wat_new (w.alloc (.cells #[.string ⟨#[]⟩, .string ⟨#[]⟩, .string ⟨#[]⟩, .string ⟨#[]⟩] 54)) #[.string ⟨#[99, 108, 105, 101, 110, 116]⟩, .string ⟨#[112, 99]⟩, .string ⟨#[98, 111, 116]⟩, .string ⟨#[97]⟩, .string ⟨#[97, 98]⟩] 9 60 5 (by decide +kernel)
  rw [World.size_alloc] at hf
  have hb1 := below2 w (.cells #[.string ⟨#[]⟩, .string ⟨#[]⟩, .string ⟨#[]⟩, .string ⟨#[]⟩] 54) (.cells #[.string ⟨#[99, 108, 105, 101, 110, 116]⟩, .string ⟨#[112, 99]⟩, .string ⟨#[98, 111, 116]⟩, .string ⟨#[97]⟩, .string ⟨#[97, 98]⟩] 9)
  have X1 := (X4.new w 54 (.string ⟨#[]⟩) (.string ⟨#[]⟩) (.string ⟨#[]⟩) (.string ⟨#[]⟩)).grown (World.grownBy_alloc _ (.cells #[.string ⟨#[99, 108, 105, 101, 110, 116]⟩, .string ⟨#[112, 99]⟩, .string ⟨#[98, 111, 116]⟩, .string ⟨#[97]⟩, .string ⟨#[97, 98]⟩] 9) none) (by simp)
  generalize hW : (w.alloc (.cells #[.string ⟨#[]⟩, .string ⟨#[]⟩, .string ⟨#[]⟩, .string ⟨#[]⟩] 54)).alloc (.cells #[.string ⟨#[99, 108, 105, 101, 110, 116]⟩, .string ⟨#[112, 99]⟩, .string ⟨#[98, 111, 116]⟩, .string ⟨#[97]⟩, .string ⟨#[97, 98]⟩] 9) = W1 at hf hb1 X1 ⊢
  have hz1 : W1.heap.size = w.heap.size + 2 := by rw [← hW]; simp
  have hxb : some w.heap.size ≠ some b := by intro e; injection e; omega
  have hnb : some (w.heap.size + 1) ≠ some b := by intro e; injection e; omega
  have hS0 : ∀ r, r < 5 → W1.drew.cell? ⟨w.heap.size + 1, r, none⟩ = some (.string (f r)) := hf
  have HS0 := Lib.hid ((HSs.out.below hb1).below (Below.refl W1.heap.size W1).drew)
  have HG0 : Hid (w.grownBy W1.drew (some b)) := Lib.hid (grown_of_below hb1.drew (some b))
  have HX0 : Hid (X4 W1.drew w.heap.size _ _ _ _) := Lib.hid (X1.grown (grown_of_below (Below.refl W1.heap.size W1).drew none) (by simp))
  have HF0 : Hid (WAt W1.drew (w.heap.size + 1) 5 f) := Lib.hid hf
  have hzd : w.heap.size + 2 ≤ W1.drew.heap.size := by show _ ≤ W1.heap.size; omega
  clear hf X1 hW HSs hb1
  refine wp_region_noPanic ?_
  refine wp_region_held_drew (S := (fun W => ∀ r, r < 5 → W.cell? ⟨w.heap.size + 1, r, none⟩ = some (.string (f r)))) (by kernel_rfl) ?_ (fun hHeld => ?_)
  · exact hS0
  generalize W1.drew = V0 at *
  refine wpAnyH_take (i := 0) (oi := _) (v := ?_) rfl (by kernel_rfl) (by kernel_rfl) (by kernel_rfl) (fun _ _ _ h => h) (Or.inl ⟨by rfl, ?_⟩) (by with_reducible assumption) ?_
  rotate_left
  · intro Wz hSw
    clear hSw
    go_simp
    all_goals (with_reducible rfl)
  try simp only [Act.put, List.getElem_toArray, List.getElem_cons_zero, List.getElem_cons_succ, List.setIfInBounds_toArray, List.set_cons_zero, List.set_cons_succ]
  refine wpAnyH_take (i := 1) (oi := _) (v := ?_) rfl (by kernel_rfl) (by kernel_rfl) (by kernel_rfl) (fun _ _ _ h => h) (Or.inl ⟨by rfl, ?_⟩) (by with_reducible assumption) ?_
  rotate_left
  · intro Wz hSw
    clear hSw
    go_simp
    all_goals (with_reducible rfl)
  try simp only [Act.put, List.getElem_toArray, List.getElem_cons_zero, List.getElem_cons_succ, List.setIfInBounds_toArray, List.set_cons_zero, List.set_cons_succ]
  refine wpAnyH_take (i := 5) (oi := _) (v := ?_) rfl (by kernel_rfl) (by kernel_rfl) (by kernel_rfl) (fun _ _ _ h => h) (Or.inl ⟨by rfl, ?_⟩) (by with_reducible assumption) ?_
  rotate_left
  · intro Wz hSw
    clear hSw
    go_simp
    all_goals (with_reducible rfl)
  try simp only [Act.put, List.getElem_toArray, List.getElem_cons_zero, List.getElem_cons_succ, List.setIfInBounds_toArray, List.set_cons_zero, List.set_cons_succ]
  refine wpAnyH_take (i := 6) (oi := _) (v := ?_) rfl (by kernel_rfl) (by kernel_rfl) (by kernel_rfl) (fun _ _ _ h => h) (Or.inl ⟨by rfl, ?_⟩) (by with_reducible assumption) ?_
  rotate_left
  · intro Wz hSw
    clear hSw
    go_simp
    all_goals (with_reducible rfl)
  try simp only [Act.put, List.getElem_toArray, List.getElem_cons_zero, List.getElem_cons_succ, List.setIfInBounds_toArray, List.set_cons_zero, List.set_cons_succ]
  refine wpAnyH_take (i := 11) (oi := _) (v := ?_) rfl (by kernel_rfl) (by kernel_rfl) (by kernel_rfl) (fun _ _ _ h => h) (Or.inl ⟨by rfl, ?_⟩) (by with_reducible assumption) ?_
  rotate_left
  · intro Wz hSw
    clear hSw
    go_simp
    all_goals (with_reducible rfl)
  try simp only [Act.put, List.getElem_toArray, List.getElem_cons_zero, List.getElem_cons_succ, List.setIfInBounds_toArray, List.set_cons_zero, List.set_cons_succ]
  refine wpAnyH_take (i := 15) (oi := _) (v := ?_) rfl (by kernel_rfl) (by kernel_rfl) (by kernel_rfl) (fun _ _ _ h => h) (Or.inl ⟨by rfl, ?_⟩) (by with_reducible assumption) ?_
  rotate_left
  · intro Wz hSw
    clear hSw
    go_simp
    all_goals (with_reducible rfl)
  try simp only [Act.put, List.getElem_toArray, List.getElem_cons_zero, List.getElem_cons_succ, List.setIfInBounds_toArray, List.set_cons_zero, List.set_cons_succ]
  refine wpAnyH_ready (rs := [2, 10]) (by kernel_rfl) (by simp) ?_
  refine AllReadyH.cons (o := _) rfl (fun K hK => ?_) (AllReadyH.cons (o := _) rfl (fun K hK => ?_) AllReadyH.nil)
  · go_simp
    refine (KN3.out (k + 0) (by omega) _ HS0.out).mono ?_
    rintro e V1 ⟨r0, rfl, hr0, hs, hg⟩
    have hr0 := hr0 (by decide)
    have hrn0 : r0 < 3 := by omega
    have hrw0 : (r0 : Int) < 5 := by omega
    have hrm0 : r0 < 5 := by omega
    have HS1 := Lib.hid hs
    have HG1 := Lib.hid (grown_trans_row HG0.out hg)
    have HX1 := Lib.hid (HX0.out.grown hg hxb)
    have HF1 := Lib.hid (wAtG HF0.out hg hnb)
    clear hs hg
    go_wp2_with fail
    refine hK.out _ _ ?_ (fun hHeld => ?_)
    · exact HF1.out
    clear hK K
    try simp only [Act.put, List.getElem_toArray, List.getElem_cons_zero, List.getElem_cons_succ, List.setIfInBounds_toArray, List.set_cons_zero, List.set_cons_succ]
    refine wpAnyH_take (i := 3) (oi := _) (v := ?_) rfl (by kernel_rfl) (by kernel_rfl) (by kernel_rfl) (fun _ _ _ h => h) (Or.inl ⟨by rfl, ?_⟩) (by with_reducible assumption) ?_
    rotate_left
    · intro Wz hSw
      clear hSw
      go_simp
      all_goals (with_reducible rfl)
    try simp only [Act.put, List.getElem_toArray, List.getElem_cons_zero, List.getElem_cons_succ, List.setIfInBounds_toArray, List.set_cons_zero, List.set_cons_succ]
    refine wpAnyH_take (i := 4) (oi := _) (v := ?_) rfl (by kernel_rfl) (by kernel_rfl) (by kernel_rfl) (fun _ _ _ h => h) (Or.inl ⟨by rfl, ?_⟩) (by with_reducible assumption) ?_
    rotate_left
    · intro Wz hSw
      have hw := hSw r0 hrm0
      clear hSw
      go_simp
      all_goals (with_reducible rfl)
    try simp only [Act.put, List.getElem_toArray, List.getElem_cons_zero, List.getElem_cons_succ, List.setIfInBounds_toArray, List.set_cons_zero, List.set_cons_succ]
    refine wpAnyH_ready (rs := [7, 10]) (by kernel_rfl) (by simp) ?_
    refine AllReadyH.cons (o := _) rfl (fun K hK => ?_) (AllReadyH.cons (o := _) rfl (fun K hK => ?_) AllReadyH.nil)
    · go_simp
      refine (KN5.out (k + 1) (by omega) _ HS1.out).mono ?_
      rintro e V2 ⟨r1, rfl, hr1, hs, hg⟩
      have hr1 := hr1 (by decide)
      have hrn1 : r1 < 5 := by omega
      have hrm1 : r1 < 5 := by omega
      have HS2 := Lib.hid hs
      have HG2 := Lib.hid (grown_trans_row HG1.out hg)
      have HX2 := Lib.hid (HX1.out.grown hg hxb)
      have HF2 := Lib.hid (wAtG HF1.out hg hnb)
      clear hs hg
      go_wp2_with fail
      refine hK.out _ _ ?_ (fun hHeld => ?_)
      · exact HF2.out
      clear hK K
      try simp only [Act.put, List.getElem_toArray, List.getElem_cons_zero, List.getElem_cons_succ, List.setIfInBounds_toArray, List.set_cons_zero, List.set_cons_succ]
      refine wpAnyH_take (i := 8) (oi := _) (v := ?_) rfl (by kernel_rfl) (by kernel_rfl) (by kernel_rfl) (fun _ _ _ h => h) (Or.inl ⟨by rfl, ?_⟩) (by with_reducible assumption) ?_
      rotate_left
      · intro Wz hSw
        clear hSw
        go_simp
        all_goals (with_reducible rfl)
      try simp only [Act.put, List.getElem_toArray, List.getElem_cons_zero, List.getElem_cons_succ, List.setIfInBounds_toArray, List.set_cons_zero, List.set_cons_succ]
      refine wpAnyH_take (i := 9) (oi := _) (v := ?_) rfl (by kernel_rfl) (by kernel_rfl) (by kernel_rfl) (fun _ _ _ h => h) (Or.inl ⟨by rfl, ?_⟩) (by with_reducible assumption) ?_
      rotate_left
      · intro Wz hSw
        have hw := hSw r1 hrm1
        clear hSw
        go_simp
        all_goals (with_reducible rfl)
      try simp only [Act.put, List.getElem_toArray, List.getElem_cons_zero, List.getElem_cons_succ, List.setIfInBounds_toArray, List.set_cons_zero, List.set_cons_succ]
      refine wpAnyH_ready (rs := [10, 12]) (by kernel_rfl) (by simp) ?_
      refine AllReadyH.cons (o := _) rfl (fun K hK => ?_) (AllReadyH.cons (o := _) rfl (fun K hK => ?_) AllReadyH.nil)
      · go_simp
        refine hK.out _ _ ?_ (fun hHeld => ?_)
        · exact wAtA HF2.out _
        clear hK K
        try simp only [Act.put, List.getElem_toArray, List.getElem_cons_zero, List.getElem_cons_succ, List.setIfInBounds_toArray, List.set_cons_zero, List.set_cons_succ]
        obtain ⟨g, hg0, hgs⟩ : ∃ g, WAt (V2.alloc (.cells #[.string ⟨#[]⟩, .string ⟨#[101, 110]⟩, .string ⟨#[101, 108]⟩] 9)) V2.heap.size 3 g ∧ ∀ r, r < 3 → (g r).size ≤ 60 := wat_new V2 _ _ 60 3 (by decide +kernel)
        have HSx := Lib.hid (HS2.out.alloc (.cells #[.string ⟨#[]⟩, .string ⟨#[101, 110]⟩, .string ⟨#[101, 108]⟩] 9))
        have HGx := Lib.hid (grown_trans_row HG2.out (World.grownBy_alloc V2 (.cells #[.string ⟨#[]⟩, .string ⟨#[101, 110]⟩, .string ⟨#[101, 108]⟩] 9) (some b)))
        have HXx := Lib.hid (HX2.out.grown (World.grownBy_alloc V2 (.cells #[.string ⟨#[]⟩, .string ⟨#[101, 110]⟩, .string ⟨#[101, 108]⟩] 9) (some b)) hxb)
        have HFx := Lib.hid (wAtA HF2.out (.cells #[.string ⟨#[]⟩, .string ⟨#[101, 110]⟩, .string ⟨#[101, 108]⟩] 9))
        have hlb : some V2.heap.size ≠ some b := by have := HS2.out.lt; intro e; injection e; omega
        have hlr : V2.heap.size ≠ w.heap.size := by have := HX2.out.lt; omega
        generalize hLB : V2.heap.size = LB at hg0 hlb hlr ⊢
        clear hLB
        generalize V2.alloc (.cells #[.string ⟨#[]⟩, .string ⟨#[101, 110]⟩, .string ⟨#[101, 108]⟩] 9) = Vx at hg0 HSx HGx HXx HFx hHeld ⊢
        refine wpAnyH_mono (S' := (fun W => (∀ r, r < 5 → W.cell? ⟨w.heap.size + 1, r, none⟩ = some (.string (f r))) ∧ (∀ r, r < 3 → W.cell? ⟨LB, r, none⟩ = some (.string (g r))))) (fun _ h => h.1) _ _ _ _ ?_
        have hHeld2 : (∀ r, r < 5 → Vx.cell? ⟨w.heap.size + 1, r, none⟩ = some (.string (f r))) ∧ (∀ r, r < 3 → Vx.cell? ⟨LB, r, none⟩ = some (.string (g r))) := And.intro hHeld hg0
        have HLx := Lib.hid hg0
        clear hHeld hg0 HS2 HG2 HX2 HF2
        have HS2 := HSx
        have HG2 := HGx
        have HX2 := HXx
        have HF2 := HFx
        have HL2 := HLx
        clear HSx HGx HXx HFx HLx
        refine wpAnyH_ready (rs := [12]) (by kernel_rfl) (by simp) ?_
        refine AllReadyH.cons (o := _) rfl (fun K hK => ?_) AllReadyH.nil
        go_simp
        refine (KN3.out (k + 2) (by omega) _ HS2.out).mono ?_
        rintro e V3 ⟨r2, rfl, hr2, hs, hg⟩
        have hr2 := hr2 (by decide)
        have hrn2 : r2 < 3 := by omega
        have hrw2 : (r2 : Int) < 5 := by omega
        have hrm2 : r2 < 5 := by omega
        have HS3 := Lib.hid hs
        have HG3 := Lib.hid (grown_trans_row HG2.out hg)
        have HX3 := Lib.hid (HX2.out.grown hg hxb)
        have HF3 := Lib.hid (wAtG HF2.out hg hnb)
        have HL3 := Lib.hid (wAtG HL2.out hg hlb)
        clear hs hg
        go_wp2_with fail
        refine hK.out _ _ ?_ (fun hHeld => ?_)
        · exact ⟨HF3.out, HL3.out⟩
        clear hK K
        try simp only [Act.put, List.getElem_toArray, List.getElem_cons_zero, List.getElem_cons_succ, List.setIfInBounds_toArray, List.set_cons_zero, List.set_cons_succ]
        refine wpAnyH_take (i := 13) (oi := _) (v := ?_) rfl (by kernel_rfl) (by kernel_rfl) (by kernel_rfl) (fun _ _ _ h => h) (Or.inl ⟨by rfl, ?_⟩) (by with_reducible assumption) ?_
        rotate_left
        · intro Wz hSw
          clear hSw
          go_simp
          all_goals (with_reducible rfl)
        try simp only [Act.put, List.getElem_toArray, List.getElem_cons_zero, List.getElem_cons_succ, List.setIfInBounds_toArray, List.set_cons_zero, List.set_cons_succ]
        refine wpAnyH_take (i := 14) (oi := _) (v := ?_) rfl (by kernel_rfl) (by kernel_rfl) (by kernel_rfl) (fun _ _ _ h => h) (Or.inl ⟨by rfl, ?_⟩) (by with_reducible assumption) ?_
        rotate_left
        · intro Wz hSw
          have hw := hSw.2 r2 hrn2
          clear hSw
          go_simp
          all_goals (with_reducible rfl)
        try simp only [Act.put, List.getElem_toArray, List.getElem_cons_zero, List.getElem_cons_succ, List.setIfInBounds_toArray, List.set_cons_zero, List.set_cons_succ]
        refine wpAnyH_ready (rs := [16]) (by kernel_rfl) (by simp) ?_
        refine AllReadyH.cons (o := _) rfl (fun K hK => ?_) AllReadyH.nil
        go_simp
        refine (KD.out (k + 3) (by omega) _ HS3.out).mono ?_
        rintro e V4 ⟨t, k4, rfl, ht, hk4, hs, hg⟩
        have HS4 := Lib.hid hs
        have HG4 := Lib.hid (grown_trans_row HG3.out hg)
        have HX4 := Lib.hid (HX3.out.grown hg hxb)
        have HF4 := Lib.hid (wAtG HF3.out hg hnb)
        have HL4 := Lib.hid (wAtG HL3.out hg hlb)
        clear hs hg
        go_wp2_with fail
        refine hK.out _ _ ?_ (fun hHeld => ?_)
        · exact ⟨HF4.out, HL4.out⟩
        clear hK K
        try simp only [Act.put, List.getElem_toArray, List.getElem_cons_zero, List.getElem_cons_succ, List.setIfInBounds_toArray, List.set_cons_zero, List.set_cons_succ]
        refine wpAnyH_take (i := 17) (oi := _) (v := ?_) rfl (by kernel_rfl) (by kernel_rfl) (by kernel_rfl) (fun _ _ _ h => h) (Or.inl ⟨by rfl, ?_⟩) (by with_reducible assumption) ?_
        rotate_left
        · intro Wz hSw
          clear hSw
          go_simp
          all_goals (with_reducible rfl)
        try simp only [Act.put, List.getElem_toArray, List.getElem_cons_zero, List.getElem_cons_succ, List.setIfInBounds_toArray, List.set_cons_zero, List.set_cons_succ]
        have hgs2 := hgs r2 hrn2
        have hfs0 := hfs r0 hrm0
        have hfs1 := hfs r1 hrm1
        have X := HX4.out
        have y0 := X.c0
        have y1 := X.c1
        have y2 := X.c2
        have y3 := X.c3
        have yf0 := X.fz 0 (by decide)
        have yf1 := X.fz 1 (by decide)
        have yf2 := X.fz 2 (by decide)
        have yf3 := X.fz 3 (by decide)
        refine wpAnyH_ready (rs := [18]) (by kernel_rfl) (by simp) ?_
        refine AllReadyH.cons (o := _) rfl (fun K hK => ?_) AllReadyH.nil
        go_simp
        refine hK.out _ _ ?_ (fun hHeld => ?_)
        · exact ⟨wAtF HF4.out (by omega) _ _ _ _, wAtF HL4.out hlr _ _ _ _⟩
        clear hK K
        try simp only [Act.put, List.getElem_toArray, List.getElem_cons_zero, List.getElem_cons_succ, List.setIfInBounds_toArray, List.set_cons_zero, List.set_cons_succ]
        refine wpAnyH_done (by kernel_rfl) ?_ _
        refine NoPanic.normal ?_
        have Z := X.fill (.string (f r0)) (.string (f r1)) (.string (g r2)) (.string t)
        have z0 := Z.c0
        have z1 := Z.c1
        have z2 := Z.c2
        have z3 := Z.c3
        clear y0 y1 y2 y3 Z
        go_wp2
        exact bodyPost_ret (v := .agg #[.string (f r0), .string (f r1), .string (g r2), .string t]) (by simp [results, Tryz.results95, go_sem, z0, z1, z2, z3]) rfl ⟨⟨f r0, f r1, g r2, t⟩, k4, rfl, hfs0, hfs1, hgs2, by show t.size ≤ 60; omega, by omega, HS4.out.fill4 hblt _ _ _ _, grown_fill4 HG4.out (Nat.le_refl _) _ _ _ _⟩
      · go_simp
        refine (KN3.out (k + 2) (by omega) _ HS2.out).mono ?_
        rintro e V3 ⟨r2, rfl, hr2, hs, hg⟩
        have hr2 := hr2 (by decide)
        have hrn2 : r2 < 3 := by omega
        have hrw2 : (r2 : Int) < 5 := by omega
        have hrm2 : r2 < 5 := by omega
        have HS3 := Lib.hid hs
        have HG3 := Lib.hid (grown_trans_row HG2.out hg)
        have HX3 := Lib.hid (HX2.out.grown hg hxb)
        have HF3 := Lib.hid (wAtG HF2.out hg hnb)
        clear hs hg
        go_wp2_with fail
        refine hK.out _ _ ?_ (fun hHeld => ?_)
        · exact HF3.out
        clear hK K
        try simp only [Act.put, List.getElem_toArray, List.getElem_cons_zero, List.getElem_cons_succ, List.setIfInBounds_toArray, List.set_cons_zero, List.set_cons_succ]
        refine wpAnyH_ready (rs := [10, 16]) (by kernel_rfl) (by simp) ?_
        refine AllReadyH.cons (o := _) rfl (fun K hK => ?_) (AllReadyH.cons (o := _) rfl (fun K hK => ?_) AllReadyH.nil)
        · go_simp
          refine hK.out _ _ ?_ (fun hHeld => ?_)
          · exact wAtA HF3.out _
          clear hK K
          try simp only [Act.put, List.getElem_toArray, List.getElem_cons_zero, List.getElem_cons_succ, List.setIfInBounds_toArray, List.set_cons_zero, List.set_cons_succ]
          obtain ⟨g, hg0, hgs⟩ : ∃ g, WAt (V3.alloc (.cells #[.string ⟨#[]⟩, .string ⟨#[101, 110]⟩, .string ⟨#[101, 108]⟩] 9)) V3.heap.size 3 g ∧ ∀ r, r < 3 → (g r).size ≤ 60 := wat_new V3 _ _ 60 3 (by decide +kernel)
          have HSx := Lib.hid (HS3.out.alloc (.cells #[.string ⟨#[]⟩, .string ⟨#[101, 110]⟩, .string ⟨#[101, 108]⟩] 9))
          have HGx := Lib.hid (grown_trans_row HG3.out (World.grownBy_alloc V3 (.cells #[.string ⟨#[]⟩, .string ⟨#[101, 110]⟩, .string ⟨#[101, 108]⟩] 9) (some b)))
          have HXx := Lib.hid (HX3.out.grown (World.grownBy_alloc V3 (.cells #[.string ⟨#[]⟩, .string ⟨#[101, 110]⟩, .string ⟨#[101, 108]⟩] 9) (some b)) hxb)
          have HFx := Lib.hid (wAtA HF3.out (.cells #[.string ⟨#[]⟩, .string ⟨#[101, 110]⟩, .string ⟨#[101, 108]⟩] 9))
          have hlb : some V3.heap.size ≠ some b := by have := HS3.out.lt; intro e; injection e; omega
          have hlr : V3.heap.size ≠ w.heap.size := by have := HX3.out.lt; omega
          generalize hLB : V3.heap.size = LB at hg0 hlb hlr ⊢
          clear hLB
          generalize V3.alloc (.cells #[.string ⟨#[]⟩, .string ⟨#[101, 110]⟩, .string ⟨#[101, 108]⟩] 9) = Vx at hg0 HSx HGx HXx HFx hHeld ⊢
          refine wpAnyH_mono (S' := (fun W => (∀ r, r < 5 → W.cell? ⟨w.heap.size + 1, r, none⟩ = some (.string (f r))) ∧ (∀ r, r < 3 → W.cell? ⟨LB, r, none⟩ = some (.string (g r))))) (fun _ h => h.1) _ _ _ _ ?_
          have hHeld2 : (∀ r, r < 5 → Vx.cell? ⟨w.heap.size + 1, r, none⟩ = some (.string (f r))) ∧ (∀ r, r < 3 → Vx.cell? ⟨LB, r, none⟩ = some (.string (g r))) := And.intro hHeld hg0
          have HLx := Lib.hid hg0
          clear hHeld hg0 HS3 HG3 HX3 HF3
          have HS3 := HSx
          have HG3 := HGx
          have HX3 := HXx
          have HF3 := HFx
          have HL3 := HLx
          clear HSx HGx HXx HFx HLx
          refine wpAnyH_take (i := 13) (oi := _) (v := ?_) rfl (by kernel_rfl) (by kernel_rfl) (by kernel_rfl) (fun _ _ _ h => h) (Or.inl ⟨by rfl, ?_⟩) (by with_reducible assumption) ?_
          rotate_left
          · intro Wz hSw
            clear hSw
            go_simp
            all_goals (with_reducible rfl)
          try simp only [Act.put, List.getElem_toArray, List.getElem_cons_zero, List.getElem_cons_succ, List.setIfInBounds_toArray, List.set_cons_zero, List.set_cons_succ]
          refine wpAnyH_take (i := 14) (oi := _) (v := ?_) rfl (by kernel_rfl) (by kernel_rfl) (by kernel_rfl) (fun _ _ _ h => h) (Or.inl ⟨by rfl, ?_⟩) (by with_reducible assumption) ?_
          rotate_left
          · intro Wz hSw
            have hw := hSw.2 r2 hrn2
            clear hSw
            go_simp
            all_goals (with_reducible rfl)
          try simp only [Act.put, List.getElem_toArray, List.getElem_cons_zero, List.getElem_cons_succ, List.setIfInBounds_toArray, List.set_cons_zero, List.set_cons_succ]
          refine wpAnyH_ready (rs := [16]) (by kernel_rfl) (by simp) ?_
          refine AllReadyH.cons (o := _) rfl (fun K hK => ?_) AllReadyH.nil
          go_simp
          refine (KD.out (k + 3) (by omega) _ HS3.out).mono ?_
          rintro e V4 ⟨t, k4, rfl, ht, hk4, hs, hg⟩
          have HS4 := Lib.hid hs
          have HG4 := Lib.hid (grown_trans_row HG3.out hg)
          have HX4 := Lib.hid (HX3.out.grown hg hxb)
          have HF4 := Lib.hid (wAtG HF3.out hg hnb)
          have HL4 := Lib.hid (wAtG HL3.out hg hlb)
          clear hs hg
          go_wp2_with fail
          refine hK.out _ _ ?_ (fun hHeld => ?_)
          · exact ⟨HF4.out, HL4.out⟩
          clear hK K
          try simp only [Act.put, List.getElem_toArray, List.getElem_cons_zero, List.getElem_cons_succ, List.setIfInBounds_toArray, List.set_cons_zero, List.set_cons_succ]
          refine wpAnyH_take (i := 17) (oi := _) (v := ?_) rfl (by kernel_rfl) (by kernel_rfl) (by kernel_rfl) (fun _ _ _ h => h) (Or.inl ⟨by rfl, ?_⟩) (by with_reducible assumption) ?_
          rotate_left
          · intro Wz hSw
            clear hSw
            go_simp
            all_goals (with_reducible rfl)
          try simp only [Act.put, List.getElem_toArray, List.getElem_cons_zero, List.getElem_cons_succ, List.setIfInBounds_toArray, List.set_cons_zero, List.set_cons_succ]
          have hgs2 := hgs r2 hrn2
          have hfs0 := hfs r0 hrm0
          have hfs1 := hfs r1 hrm1
          have X := HX4.out
          have y0 := X.c0
          have y1 := X.c1
          have y2 := X.c2
          have y3 := X.c3
          have yf0 := X.fz 0 (by decide)
          have yf1 := X.fz 1 (by decide)
          have yf2 := X.fz 2 (by decide)
          have yf3 := X.fz 3 (by decide)
          refine wpAnyH_ready (rs := [18]) (by kernel_rfl) (by simp) ?_
          refine AllReadyH.cons (o := _) rfl (fun K hK => ?_) AllReadyH.nil
          go_simp
          refine hK.out _ _ ?_ (fun hHeld => ?_)
          · exact ⟨wAtF HF4.out (by omega) _ _ _ _, wAtF HL4.out hlr _ _ _ _⟩
          clear hK K
          try simp only [Act.put, List.getElem_toArray, List.getElem_cons_zero, List.getElem_cons_succ, List.setIfInBounds_toArray, List.set_cons_zero, List.set_cons_succ]
          refine wpAnyH_done (by kernel_rfl) ?_ _
          refine NoPanic.normal ?_
          have Z := X.fill (.string (f r0)) (.string (f r1)) (.string (g r2)) (.string t)
          have z0 := Z.c0
          have z1 := Z.c1
          have z2 := Z.c2
          have z3 := Z.c3
          clear y0 y1 y2 y3 Z
          go_wp2
          exact bodyPost_ret (v := .agg #[.string (f r0), .string (f r1), .string (g r2), .string t]) (by simp [results, Tryz.results95, go_sem, z0, z1, z2, z3]) rfl ⟨⟨f r0, f r1, g r2, t⟩, k4, rfl, hfs0, hfs1, hgs2, by show t.size ≤ 60; omega, by omega, HS4.out.fill4 hblt _ _ _ _, grown_fill4 HG4.out (Nat.le_refl _) _ _ _ _⟩
        · go_simp
          refine (KD.out (k + 3) (by omega) _ HS3.out).mono ?_
          rintro e V4 ⟨t, k4, rfl, ht, hk4, hs, hg⟩
          have HS4 := Lib.hid hs
          have HG4 := Lib.hid (grown_trans_row HG3.out hg)
          have HX4 := Lib.hid (HX3.out.grown hg hxb)
          have HF4 := Lib.hid (wAtG HF3.out hg hnb)
          clear hs hg
          go_wp2_with fail
          refine hK.out _ _ ?_ (fun hHeld => ?_)
          · exact HF4.out
          clear hK K
          try simp only [Act.put, List.getElem_toArray, List.getElem_cons_zero, List.getElem_cons_succ, List.setIfInBounds_toArray, List.set_cons_zero, List.set_cons_succ]
          refine wpAnyH_ready (rs := [10]) (by kernel_rfl) (by simp) ?_
          refine AllReadyH.cons (o := _) rfl (fun K hK => ?_) AllReadyH.nil
          go_simp
          refine hK.out _ _ ?_ (fun hHeld => ?_)
          · exact wAtA HF4.out _
          clear hK K
          try simp only [Act.put, List.getElem_toArray, List.getElem_cons_zero, List.getElem_cons_succ, List.setIfInBounds_toArray, List.set_cons_zero, List.set_cons_succ]
          obtain ⟨g, hg0, hgs⟩ : ∃ g, WAt (V4.alloc (.cells #[.string ⟨#[]⟩, .string ⟨#[101, 110]⟩, .string ⟨#[101, 108]⟩] 9)) V4.heap.size 3 g ∧ ∀ r, r < 3 → (g r).size ≤ 60 := wat_new V4 _ _ 60 3 (by decide +kernel)
          have HSx := Lib.hid (HS4.out.alloc (.cells #[.string ⟨#[]⟩, .string ⟨#[101, 110]⟩, .string ⟨#[101, 108]⟩] 9))
          have HGx := Lib.hid (grown_trans_row HG4.out (World.grownBy_alloc V4 (.cells #[.string ⟨#[]⟩, .string ⟨#[101, 110]⟩, .string ⟨#[101, 108]⟩] 9) (some b)))
          have HXx := Lib.hid (HX4.out.grown (World.grownBy_alloc V4 (.cells #[.string ⟨#[]⟩, .string ⟨#[101, 110]⟩, .string ⟨#[101, 108]⟩] 9) (some b)) hxb)
          have HFx := Lib.hid (wAtA HF4.out (.cells #[.string ⟨#[]⟩, .string ⟨#[101, 110]⟩, .string ⟨#[101, 108]⟩] 9))
          have hlb : some V4.heap.size ≠ some b := by have := HS4.out.lt; intro e; injection e; omega
          have hlr : V4.heap.size ≠ w.heap.size := by have := HX4.out.lt; omega
          generalize hLB : V4.heap.size = LB at hg0 hlb hlr ⊢
          clear hLB
          generalize V4.alloc (.cells #[.string ⟨#[]⟩, .string ⟨#[101, 110]⟩, .string ⟨#[101, 108]⟩] 9) = Vx at hg0 HSx HGx HXx HFx hHeld ⊢
          refine wpAnyH_mono (S' := (fun W => (∀ r, r < 5 → W.cell? ⟨w.heap.size + 1, r, none⟩ = some (.string (f r))) ∧ (∀ r, r < 3 → W.cell? ⟨LB, r, none⟩ = some (.string (g r))))) (fun _ h => h.1) _ _ _ _ ?_
          have hHeld2 : (∀ r, r < 5 → Vx.cell? ⟨w.heap.size + 1, r, none⟩ = some (.string (f r))) ∧ (∀ r, r < 3 → Vx.cell? ⟨LB, r, none⟩ = some (.string (g r))) := And.intro hHeld hg0
          have HLx := Lib.hid hg0
          clear hHeld hg0 HS4 HG4 HX4 HF4
          have HS4 := HSx
          have HG4 := HGx
          have HX4 := HXx
          have HF4 := HFx
          have HL4 := HLx
          clear HSx HGx HXx HFx HLx
          refine wpAnyH_take (i := 13) (oi := _) (v := ?_) rfl (by kernel_rfl) (by kernel_rfl) (by kernel_rfl) (fun _ _ _ h => h) (Or.inl ⟨by rfl, ?_⟩) (by with_reducible assumption) ?_
          rotate_left
          · intro Wz hSw
            clear hSw
            go_simp
            all_goals (with_reducible rfl)
          try simp only [Act.put, List.getElem_toArray, List.getElem_cons_zero, List.getElem_cons_succ, List.setIfInBounds_toArray, List.set_cons_zero, List.set_cons_succ]
          refine wpAnyH_take (i := 14) (oi := _) (v := ?_) rfl (by kernel_rfl) (by kernel_rfl) (by kernel_rfl) (fun _ _ _ h => h) (Or.inl ⟨by rfl, ?_⟩) (by with_reducible assumption) ?_
          rotate_left
          · intro Wz hSw
            have hw := hSw.2 r2 hrn2
            clear hSw
            go_simp
            all_goals (with_reducible rfl)
          try simp only [Act.put, List.getElem_toArray, List.getElem_cons_zero, List.getElem_cons_succ, List.setIfInBounds_toArray, List.set_cons_zero, List.set_cons_succ]
          refine wpAnyH_take (i := 17) (oi := _) (v := ?_) rfl (by kernel_rfl) (by kernel_rfl) (by kernel_rfl) (fun _ _ _ h => h) (Or.inl ⟨by rfl, ?_⟩) (by with_reducible assumption) ?_
          rotate_left
          · intro Wz hSw
            clear hSw
            go_simp
            all_goals (with_reducible rfl)
          try simp only [Act.put, List.getElem_toArray, List.getElem_cons_zero, List.getElem_cons_succ, List.setIfInBounds_toArray, List.set_cons_zero, List.set_cons_succ]
          have hgs2 := hgs r2 hrn2
          have hfs0 := hfs r0 hrm0
          have hfs1 := hfs r1 hrm1
          have X := HX4.out
          have y0 := X.c0
          have y1 := X.c1
          have y2 := X.c2
          have y3 := X.c3
          have yf0 := X.fz 0 (by decide)
          have yf1 := X.fz 1 (by decide)
          have yf2 := X.fz 2 (by decide)
          have yf3 := X.fz 3 (by decide)
          refine wpAnyH_ready (rs := [18]) (by kernel_rfl) (by simp) ?_
          refine AllReadyH.cons (o := _) rfl (fun K hK => ?_) AllReadyH.nil
          go_simp
          refine hK.out _ _ ?_ (fun hHeld => ?_)
          · exact ⟨wAtF HF4.out (by omega) _ _ _ _, wAtF HL4.out hlr _ _ _ _⟩
          clear hK K
          try simp only [Act.put, List.getElem_toArray, List.getElem_cons_zero, List.getElem_cons_succ, List.setIfInBounds_toArray, List.set_cons_zero, List.set_cons_succ]
          refine wpAnyH_done (by kernel_rfl) ?_ _
          refine NoPanic.normal ?_
          have Z := X.fill (.string (f r0)) (.string (f r1)) (.string (g r2)) (.string t)
          have z0 := Z.c0
          have z1 := Z.c1
          have z2 := Z.c2
          have z3 := Z.c3
          clear y0 y1 y2 y3 Z
          go_wp2
          exact bodyPost_ret (v := .agg #[.string (f r0), .string (f r1), .string (g r2), .string t]) (by simp [results, Tryz.results95, go_sem, z0, z1, z2, z3]) rfl ⟨⟨f r0, f r1, g r2, t⟩, k4, rfl, hfs0, hfs1, hgs2, by show t.size ≤ 60; omega, by omega, HS4.out.fill4 hblt _ _ _ _, grown_fill4 HG4.out (Nat.le_refl _) _ _ _ _⟩
    · go_simp
      refine hK.out _ _ ?_ (fun hHeld => ?_)
      · exact wAtA HF1.out _
      clear hK K
      try simp only [Act.put, List.getElem_toArray, List.getElem_cons_zero, List.getElem_cons_succ, List.setIfInBounds_toArray, List.set_cons_zero, List.set_cons_succ]
      obtain ⟨g, hg0, hgs⟩ : ∃ g, WAt (V1.alloc (.cells #[.string ⟨#[]⟩, .string ⟨#[101, 110]⟩, .string ⟨#[101, 108]⟩] 9)) V1.heap.size 3 g ∧ ∀ r, r < 3 → (g r).size ≤ 60 := wat_new V1 _ _ 60 3 (by decide +kernel)
      have HSx := Lib.hid (HS1.out.alloc (.cells #[.string ⟨#[]⟩, .string ⟨#[101, 110]⟩, .string ⟨#[101, 108]⟩] 9))
      have HGx := Lib.hid (grown_trans_row HG1.out (World.grownBy_alloc V1 (.cells #[.string ⟨#[]⟩, .string ⟨#[101, 110]⟩, .string ⟨#[101, 108]⟩] 9) (some b)))
      have HXx := Lib.hid (HX1.out.grown (World.grownBy_alloc V1 (.cells #[.string ⟨#[]⟩, .string ⟨#[101, 110]⟩, .string ⟨#[101, 108]⟩] 9) (some b)) hxb)
      have HFx := Lib.hid (wAtA HF1.out (.cells #[.string ⟨#[]⟩, .string ⟨#[101, 110]⟩, .string ⟨#[101, 108]⟩] 9))
      have hlb : some V1.heap.size ≠ some b := by have := HS1.out.lt; intro e; injection e; omega
      have hlr : V1.heap.size ≠ w.heap.size := by have := HX1.out.lt; omega
      generalize hLB : V1.heap.size = LB at hg0 hlb hlr ⊢
      clear hLB
      generalize V1.alloc (.cells #[.string ⟨#[]⟩, .string ⟨#[101, 110]⟩, .string ⟨#[101, 108]⟩] 9) = Vx at hg0 HSx HGx HXx HFx hHeld ⊢
      refine wpAnyH_mono (S' := (fun W => (∀ r, r < 5 → W.cell? ⟨w.heap.size + 1, r, none⟩ = some (.string (f r))) ∧ (∀ r, r < 3 → W.cell? ⟨LB, r, none⟩ = some (.string (g r))))) (fun _ h => h.1) _ _ _ _ ?_
      have hHeld2 : (∀ r, r < 5 → Vx.cell? ⟨w.heap.size + 1, r, none⟩ = some (.string (f r))) ∧ (∀ r, r < 3 → Vx.cell? ⟨LB, r, none⟩ = some (.string (g r))) := And.intro hHeld hg0
      have HLx := Lib.hid hg0
      clear hHeld hg0 HS1 HG1 HX1 HF1
      have HS1 := HSx
      have HG1 := HGx
      have HX1 := HXx
      have HF1 := HFx
      have HL1 := HLx
      clear HSx HGx HXx HFx HLx
      refine wpAnyH_ready (rs := [7]) (by kernel_rfl) (by simp) ?_
      refine AllReadyH.cons (o := _) rfl (fun K hK => ?_) AllReadyH.nil
      go_simp
      refine (KN5.out (k + 1) (by omega) _ HS1.out).mono ?_
      rintro e V2 ⟨r1, rfl, hr1, hs, hg⟩
      have hr1 := hr1 (by decide)
      have hrn1 : r1 < 5 := by omega
      have hrm1 : r1 < 5 := by omega
      have HS2 := Lib.hid hs
      have HG2 := Lib.hid (grown_trans_row HG1.out hg)
      have HX2 := Lib.hid (HX1.out.grown hg hxb)
      have HF2 := Lib.hid (wAtG HF1.out hg hnb)
      have HL2 := Lib.hid (wAtG HL1.out hg hlb)
      clear hs hg
      go_wp2_with fail
      refine hK.out _ _ ?_ (fun hHeld => ?_)
      · exact ⟨HF2.out, HL2.out⟩
      clear hK K
      try simp only [Act.put, List.getElem_toArray, List.getElem_cons_zero, List.getElem_cons_succ, List.setIfInBounds_toArray, List.set_cons_zero, List.set_cons_succ]
      refine wpAnyH_take (i := 8) (oi := _) (v := ?_) rfl (by kernel_rfl) (by kernel_rfl) (by kernel_rfl) (fun _ _ _ h => h) (Or.inl ⟨by rfl, ?_⟩) (by with_reducible assumption) ?_
      rotate_left
      · intro Wz hSw
        clear hSw
        go_simp
        all_goals (with_reducible rfl)
      try simp only [Act.put, List.getElem_toArray, List.getElem_cons_zero, List.getElem_cons_succ, List.setIfInBounds_toArray, List.set_cons_zero, List.set_cons_succ]
      refine wpAnyH_take (i := 9) (oi := _) (v := ?_) rfl (by kernel_rfl) (by kernel_rfl) (by kernel_rfl) (fun _ _ _ h => h) (Or.inl ⟨by rfl, ?_⟩) (by with_reducible assumption) ?_
      rotate_left
      · intro Wz hSw
        have hw := hSw.1 r1 hrm1
        clear hSw
        go_simp
        all_goals (with_reducible rfl)
      try simp only [Act.put, List.getElem_toArray, List.getElem_cons_zero, List.getElem_cons_succ, List.setIfInBounds_toArray, List.set_cons_zero, List.set_cons_succ]
      refine wpAnyH_ready (rs := [12]) (by kernel_rfl) (by simp) ?_
      refine AllReadyH.cons (o := _) rfl (fun K hK => ?_) AllReadyH.nil
      go_simp
      refine (KN3.out (k + 2) (by omega) _ HS2.out).mono ?_
      rintro e V3 ⟨r2, rfl, hr2, hs, hg⟩
      have hr2 := hr2 (by decide)
      have hrn2 : r2 < 3 := by omega
      have hrw2 : (r2 : Int) < 5 := by omega
      have hrm2 : r2 < 5 := by omega
      have HS3 := Lib.hid hs
      have HG3 := Lib.hid (grown_trans_row HG2.out hg)
      have HX3 := Lib.hid (HX2.out.grown hg hxb)
      have HF3 := Lib.hid (wAtG HF2.out hg hnb)
      have HL3 := Lib.hid (wAtG HL2.out hg hlb)
      clear hs hg
      go_wp2_with fail
      refine hK.out _ _ ?_ (fun hHeld => ?_)
      · exact ⟨HF3.out, HL3.out⟩
      clear hK K
      try simp only [Act.put, List.getElem_toArray, List.getElem_cons_zero, List.getElem_cons_succ, List.setIfInBounds_toArray, List.set_cons_zero, List.set_cons_succ]
      refine wpAnyH_take (i := 13) (oi := _) (v := ?_) rfl (by kernel_rfl) (by kernel_rfl) (by kernel_rfl) (fun _ _ _ h => h) (Or.inl ⟨by rfl, ?_⟩) (by with_reducible assumption) ?_
      rotate_left
      · intro Wz hSw
        clear hSw
        go_simp
        all_goals (with_reducible rfl)
      try simp only [Act.put, List.getElem_toArray, List.getElem_cons_zero, List.getElem_cons_succ, List.setIfInBounds_toArray, List.set_cons_zero, List.set_cons_succ]
      refine wpAnyH_take (i := 14) (oi := _) (v := ?_) rfl (by kernel_rfl) (by kernel_rfl) (by kernel_rfl) (fun _ _ _ h => h) (Or.inl ⟨by rfl, ?_⟩) (by with_reducible assumption) ?_
      rotate_left
      · intro Wz hSw
        have hw := hSw.2 r2 hrn2
        clear hSw
        go_simp
        all_goals (with_reducible rfl)
      try simp only [Act.put, List.getElem_toArray, List.getElem_cons_zero, List.getElem_cons_succ, List.setIfInBounds_toArray, List.set_cons_zero, List.set_cons_succ]
      refine wpAnyH_ready (rs := [16]) (by kernel_rfl) (by simp) ?_
      refine AllReadyH.cons (o := _) rfl (fun K hK => ?_) AllReadyH.nil
      go_simp
      refine (KD.out (k + 3) (by omega) _ HS3.out).mono ?_
      rintro e V4 ⟨t, k4, rfl, ht, hk4, hs, hg⟩
      have HS4 := Lib.hid hs
      have HG4 := Lib.hid (grown_trans_row HG3.out hg)
      have HX4 := Lib.hid (HX3.out.grown hg hxb)
      have HF4 := Lib.hid (wAtG HF3.out hg hnb)
      have HL4 := Lib.hid (wAtG HL3.out hg hlb)
      clear hs hg
      go_wp2_with fail
      refine hK.out _ _ ?_ (fun hHeld => ?_)
      · exact ⟨HF4.out, HL4.out⟩
      clear hK K
      try simp only [Act.put, List.getElem_toArray, List.getElem_cons_zero, List.getElem_cons_succ, List.setIfInBounds_toArray, List.set_cons_zero, List.set_cons_succ]
      refine wpAnyH_take (i := 17) (oi := _) (v := ?_) rfl (by kernel_rfl) (by kernel_rfl) (by kernel_rfl) (fun _ _ _ h => h) (Or.inl ⟨by rfl, ?_⟩) (by with_reducible assumption) ?_
      rotate_left
      · intro Wz hSw
        clear hSw
        go_simp
        all_goals (with_reducible rfl)
      try simp only [Act.put, List.getElem_toArray, List.getElem_cons_zero, List.getElem_cons_succ, List.setIfInBounds_toArray, List.set_cons_zero, List.set_cons_succ]
      have hgs2 := hgs r2 hrn2
      have hfs0 := hfs r0 hrm0
      have hfs1 := hfs r1 hrm1
      have X := HX4.out
      have y0 := X.c0
      have y1 := X.c1
      have y2 := X.c2
      have y3 := X.c3
      have yf0 := X.fz 0 (by decide)
      have yf1 := X.fz 1 (by decide)
      have yf2 := X.fz 2 (by decide)
      have yf3 := X.fz 3 (by decide)
      refine wpAnyH_ready (rs := [18]) (by kernel_rfl) (by simp) ?_
      refine AllReadyH.cons (o := _) rfl (fun K hK => ?_) AllReadyH.nil
      go_simp
      refine hK.out _ _ ?_ (fun hHeld => ?_)
      · exact ⟨wAtF HF4.out (by omega) _ _ _ _, wAtF HL4.out hlr _ _ _ _⟩
      clear hK K
      try simp only [Act.put, List.getElem_toArray, List.getElem_cons_zero, List.getElem_cons_succ, List.setIfInBounds_toArray, List.set_cons_zero, List.set_cons_succ]
      refine wpAnyH_done (by kernel_rfl) ?_ _
      refine NoPanic.normal ?_
      have Z := X.fill (.string (f r0)) (.string (f r1)) (.string (g r2)) (.string t)
      have z0 := Z.c0
      have z1 := Z.c1
      have z2 := Z.c2
      have z3 := Z.c3
      clear y0 y1 y2 y3 Z
      go_wp2
      exact bodyPost_ret (v := .agg #[.string (f r0), .string (f r1), .string (g r2), .string t]) (by simp [results, Tryz.results95, go_sem, z0, z1, z2, z3]) rfl ⟨⟨f r0, f r1, g r2, t⟩, k4, rfl, hfs0, hfs1, hgs2, by show t.size ≤ 60; omega, by omega, HS4.out.fill4 hblt _ _ _ _, grown_fill4 HG4.out (Nat.le_refl _) _ _ _ _⟩
  · go_simp
    refine hK.out _ _ ?_ (fun hHeld => ?_)
    · exact wAtA HF0.out _
    clear hK K
    try simp only [Act.put, List.getElem_toArray, List.getElem_cons_zero, List.getElem_cons_succ, List.setIfInBounds_toArray, List.set_cons_zero, List.set_cons_succ]
    obtain ⟨g, hg0, hgs⟩ : ∃ g, WAt (V0.alloc (.cells #[.string ⟨#[]⟩, .string ⟨#[101, 110]⟩, .string ⟨#[101, 108]⟩] 9)) V0.heap.size 3 g ∧ ∀ r, r < 3 → (g r).size ≤ 60 := wat_new V0 _ _ 60 3 (by decide +kernel)
    have HSx := Lib.hid (HS0.out.alloc (.cells #[.string ⟨#[]⟩, .string ⟨#[101, 110]⟩, .string ⟨#[101, 108]⟩] 9))
    have HGx := Lib.hid (grown_trans_row HG0.out (World.grownBy_alloc V0 (.cells #[.string ⟨#[]⟩, .string ⟨#[101, 110]⟩, .string ⟨#[101, 108]⟩] 9) (some b)))
    have HXx := Lib.hid (HX0.out.grown (World.grownBy_alloc V0 (.cells #[.string ⟨#[]⟩, .string ⟨#[101, 110]⟩, .string ⟨#[101, 108]⟩] 9) (some b)) hxb)
    have HFx := Lib.hid (wAtA HF0.out (.cells #[.string ⟨#[]⟩, .string ⟨#[101, 110]⟩, .string ⟨#[101, 108]⟩] 9))
    have hlb : some V0.heap.size ≠ some b := by have := HS0.out.lt; intro e; injection e; omega
    have hlr : V0.heap.size ≠ w.heap.size := by have := HX0.out.lt; omega
    generalize hLB : V0.heap.size = LB at hg0 hlb hlr ⊢
    clear hLB
    generalize V0.alloc (.cells #[.string ⟨#[]⟩, .string ⟨#[101, 110]⟩, .string ⟨#[101, 108]⟩] 9) = Vx at hg0 HSx HGx HXx HFx hHeld ⊢
    refine wpAnyH_mono (S' := (fun W => (∀ r, r < 5 → W.cell? ⟨w.heap.size + 1, r, none⟩ = some (.string (f r))) ∧ (∀ r, r < 3 → W.cell? ⟨LB, r, none⟩ = some (.string (g r))))) (fun _ h => h.1) _ _ _ _ ?_
    have hHeld2 : (∀ r, r < 5 → Vx.cell? ⟨w.heap.size + 1, r, none⟩ = some (.string (f r))) ∧ (∀ r, r < 3 → Vx.cell? ⟨LB, r, none⟩ = some (.string (g r))) := And.intro hHeld hg0
    have HLx := Lib.hid hg0
    clear hHeld hg0 HS0 HG0 HX0 HF0
    have HS0 := HSx
    have HG0 := HGx
    have HX0 := HXx
    have HF0 := HFx
    have HL0 := HLx
    clear HSx HGx HXx HFx HLx
    refine wpAnyH_ready (rs := [2]) (by kernel_rfl) (by simp) ?_
    refine AllReadyH.cons (o := _) rfl (fun K hK => ?_) AllReadyH.nil
    go_simp
    refine (KN3.out (k + 0) (by omega) _ HS0.out).mono ?_
    rintro e V1 ⟨r0, rfl, hr0, hs, hg⟩
    have hr0 := hr0 (by decide)
    have hrn0 : r0 < 3 := by omega
    have hrw0 : (r0 : Int) < 5 := by omega
    have hrm0 : r0 < 5 := by omega
    have HS1 := Lib.hid hs
    have HG1 := Lib.hid (grown_trans_row HG0.out hg)
    have HX1 := Lib.hid (HX0.out.grown hg hxb)
    have HF1 := Lib.hid (wAtG HF0.out hg hnb)
    have HL1 := Lib.hid (wAtG HL0.out hg hlb)
    clear hs hg
    go_wp2_with fail
    refine hK.out _ _ ?_ (fun hHeld => ?_)
    · exact ⟨HF1.out, HL1.out⟩
    clear hK K
    try simp only [Act.put, List.getElem_toArray, List.getElem_cons_zero, List.getElem_cons_succ, List.setIfInBounds_toArray, List.set_cons_zero, List.set_cons_succ]
    refine wpAnyH_take (i := 3) (oi := _) (v := ?_) rfl (by kernel_rfl) (by kernel_rfl) (by kernel_rfl) (fun _ _ _ h => h) (Or.inl ⟨by rfl, ?_⟩) (by with_reducible assumption) ?_
    rotate_left
    · intro Wz hSw
      clear hSw
      go_simp
      all_goals (with_reducible rfl)
    try simp only [Act.put, List.getElem_toArray, List.getElem_cons_zero, List.getElem_cons_succ, List.setIfInBounds_toArray, List.set_cons_zero, List.set_cons_succ]
    refine wpAnyH_take (i := 4) (oi := _) (v := ?_) rfl (by kernel_rfl) (by kernel_rfl) (by kernel_rfl) (fun _ _ _ h => h) (Or.inl ⟨by rfl, ?_⟩) (by with_reducible assumption) ?_
    rotate_left
    · intro Wz hSw
      have hw := hSw.1 r0 hrm0
      clear hSw
      go_simp
      all_goals (with_reducible rfl)
    try simp only [Act.put, List.getElem_toArray, List.getElem_cons_zero, List.getElem_cons_succ, List.setIfInBounds_toArray, List.set_cons_zero, List.set_cons_succ]
    refine wpAnyH_ready (rs := [7]) (by kernel_rfl) (by simp) ?_
    refine AllReadyH.cons (o := _) rfl (fun K hK => ?_) AllReadyH.nil
    go_simp
    refine (KN5.out (k + 1) (by omega) _ HS1.out).mono ?_
    rintro e V2 ⟨r1, rfl, hr1, hs, hg⟩
    have hr1 := hr1 (by decide)
    have hrn1 : r1 < 5 := by omega
    have hrm1 : r1 < 5 := by omega
    have HS2 := Lib.hid hs
    have HG2 := Lib.hid (grown_trans_row HG1.out hg)
    have HX2 := Lib.hid (HX1.out.grown hg hxb)
    have HF2 := Lib.hid (wAtG HF1.out hg hnb)
    have HL2 := Lib.hid (wAtG HL1.out hg hlb)
    clear hs hg
    go_wp2_with fail
    refine hK.out _ _ ?_ (fun hHeld => ?_)
    · exact ⟨HF2.out, HL2.out⟩
    clear hK K
    try simp only [Act.put, List.getElem_toArray, List.getElem_cons_zero, List.getElem_cons_succ, List.setIfInBounds_toArray, List.set_cons_zero, List.set_cons_succ]
    refine wpAnyH_take (i := 8) (oi := _) (v := ?_) rfl (by kernel_rfl) (by kernel_rfl) (by kernel_rfl) (fun _ _ _ h => h) (Or.inl ⟨by rfl, ?_⟩) (by with_reducible assumption) ?_
    rotate_left
    · intro Wz hSw
      clear hSw
      go_simp
      all_goals (with_reducible rfl)
    try simp only [Act.put, List.getElem_toArray, List.getElem_cons_zero, List.getElem_cons_succ, List.setIfInBounds_toArray, List.set_cons_zero, List.set_cons_succ]
    refine wpAnyH_take (i := 9) (oi := _) (v := ?_) rfl (by kernel_rfl) (by kernel_rfl) (by kernel_rfl) (fun _ _ _ h => h) (Or.inl ⟨by rfl, ?_⟩) (by with_reducible assumption) ?_
    rotate_left
    · intro Wz hSw
      have hw := hSw.1 r1 hrm1
      clear hSw
      go_simp
      all_goals (with_reducible rfl)
    try simp only [Act.put, List.getElem_toArray, List.getElem_cons_zero, List.getElem_cons_succ, List.setIfInBounds_toArray, List.set_cons_zero, List.set_cons_succ]
    refine wpAnyH_ready (rs := [12]) (by kernel_rfl) (by simp) ?_
    refine AllReadyH.cons (o := _) rfl (fun K hK => ?_) AllReadyH.nil
    go_simp
    refine (KN3.out (k + 2) (by omega) _ HS2.out).mono ?_
    rintro e V3 ⟨r2, rfl, hr2, hs, hg⟩
    have hr2 := hr2 (by decide)
    have hrn2 : r2 < 3 := by omega
    have hrw2 : (r2 : Int) < 5 := by omega
    have hrm2 : r2 < 5 := by omega
    have HS3 := Lib.hid hs
    have HG3 := Lib.hid (grown_trans_row HG2.out hg)
    have HX3 := Lib.hid (HX2.out.grown hg hxb)
    have HF3 := Lib.hid (wAtG HF2.out hg hnb)
    have HL3 := Lib.hid (wAtG HL2.out hg hlb)
    clear hs hg
    go_wp2_with fail
    refine hK.out _ _ ?_ (fun hHeld => ?_)
    · exact ⟨HF3.out, HL3.out⟩
    clear hK K
    try simp only [Act.put, List.getElem_toArray, List.getElem_cons_zero, List.getElem_cons_succ, List.setIfInBounds_toArray, List.set_cons_zero, List.set_cons_succ]
    refine wpAnyH_take (i := 13) (oi := _) (v := ?_) rfl (by kernel_rfl) (by kernel_rfl) (by kernel_rfl) (fun _ _ _ h => h) (Or.inl ⟨by rfl, ?_⟩) (by with_reducible assumption) ?_
    rotate_left
    · intro Wz hSw
      clear hSw
      go_simp
      all_goals (with_reducible rfl)
    try simp only [Act.put, List.getElem_toArray, List.getElem_cons_zero, List.getElem_cons_succ, List.setIfInBounds_toArray, List.set_cons_zero, List.set_cons_succ]
    refine wpAnyH_take (i := 14) (oi := _) (v := ?_) rfl (by kernel_rfl) (by kernel_rfl) (by kernel_rfl) (fun _ _ _ h => h) (Or.inl ⟨by rfl, ?_⟩) (by with_reducible assumption) ?_
    rotate_left
    · intro Wz hSw
      have hw := hSw.2 r2 hrn2
      clear hSw
      go_simp
      all_goals (with_reducible rfl)
    try simp only [Act.put, List.getElem_toArray, List.getElem_cons_zero, List.getElem_cons_succ, List.setIfInBounds_toArray, List.set_cons_zero, List.set_cons_succ]
    refine wpAnyH_ready (rs := [16]) (by kernel_rfl) (by simp) ?_
    refine AllReadyH.cons (o := _) rfl (fun K hK => ?_) AllReadyH.nil
    go_simp
    refine (KD.out (k + 3) (by omega) _ HS3.out).mono ?_
    rintro e V4 ⟨t, k4, rfl, ht, hk4, hs, hg⟩
    have HS4 := Lib.hid hs
    have HG4 := Lib.hid (grown_trans_row HG3.out hg)
    have HX4 := Lib.hid (HX3.out.grown hg hxb)
    have HF4 := Lib.hid (wAtG HF3.out hg hnb)
    have HL4 := Lib.hid (wAtG HL3.out hg hlb)
    clear hs hg
    go_wp2_with fail
    refine hK.out _ _ ?_ (fun hHeld => ?_)
    · exact ⟨HF4.out, HL4.out⟩
    clear hK K
    try simp only [Act.put, List.getElem_toArray, List.getElem_cons_zero, List.getElem_cons_succ, List.setIfInBounds_toArray, List.set_cons_zero, List.set_cons_succ]
    refine wpAnyH_take (i := 17) (oi := _) (v := ?_) rfl (by kernel_rfl) (by kernel_rfl) (by kernel_rfl) (fun _ _ _ h => h) (Or.inl ⟨by rfl, ?_⟩) (by with_reducible assumption) ?_
    rotate_left
    · intro Wz hSw
      clear hSw
      go_simp
      all_goals (with_reducible rfl)
    try simp only [Act.put, List.getElem_toArray, List.getElem_cons_zero, List.getElem_cons_succ, List.setIfInBounds_toArray, List.set_cons_zero, List.set_cons_succ]
    have hgs2 := hgs r2 hrn2
    have hfs0 := hfs r0 hrm0
    have hfs1 := hfs r1 hrm1
    have X := HX4.out
    have y0 := X.c0
    have y1 := X.c1
    have y2 := X.c2
    have y3 := X.c3
    have yf0 := X.fz 0 (by decide)
    have yf1 := X.fz 1 (by decide)
    have yf2 := X.fz 2 (by decide)
    have yf3 := X.fz 3 (by decide)
    refine wpAnyH_ready (rs := [18]) (by kernel_rfl) (by simp) ?_
    refine AllReadyH.cons (o := _) rfl (fun K hK => ?_) AllReadyH.nil
    go_simp
    refine hK.out _ _ ?_ (fun hHeld => ?_)
    · exact ⟨wAtF HF4.out (by omega) _ _ _ _, wAtF HL4.out hlr _ _ _ _⟩
    clear hK K
    try simp only [Act.put, List.getElem_toArray, List.getElem_cons_zero, List.getElem_cons_succ, List.setIfInBounds_toArray, List.set_cons_zero, List.set_cons_succ]
    refine wpAnyH_done (by kernel_rfl) ?_ _
    refine NoPanic.normal ?_
    have Z := X.fill (.string (f r0)) (.string (f r1)) (.string (g r2)) (.string t)
    have z0 := Z.c0
    have z1 := Z.c1
    have z2 := Z.c2
    have z3 := Z.c3
    clear y0 y1 y2 y3 Z
    go_wp2
    exact bodyPost_ret (v := .agg #[.string (f r0), .string (f r1), .string (g r2), .string t]) (by simp [results, Tryz.results95, go_sem, z0, z1, z2, z3]) rfl ⟨⟨f r0, f r1, g r2, t⟩, k4, rfl, hfs0, hfs1, hgs2, by show t.size ≤ 60; omega, by omega, HS4.out.fill4 hblt _ _ _ _, grown_fill4 HG4.out (Nat.le_refl _) _ _ _ _⟩
end Go.Proofs.YtcaknhoaoodbfaaGreatDoor
