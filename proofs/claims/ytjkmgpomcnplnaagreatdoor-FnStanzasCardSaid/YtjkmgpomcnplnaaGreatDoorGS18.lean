/- spec.l7Tree, spec.TreeOf. -/
import Derived.Test.YtjkmgpomcnplnaaGreatDoorGS12
import Derived.Test.YtjkmgpomcnplnaaGreatDoorGS17
import Derived.Deep.DeepCutAuto
import Derived.Test.YtjkmgpomcnplnaaGreatDoorGS8
import Derived.Test.YtjkmgpomcnplnaaGreatDoorGS1
import Derived.Test.YtjkmgpomcnplnaaGreatDoorGS7
namespace Go.Proofs.YtjkmgpomcnplnaaGreatDoor
open Go.ChangeShapes Go.WideShapes Go.ChangeAt Go.RowKit
set_option linter.unusedVariables false
set_option linter.unusedSimpArgs false
theorem leaf_part {nm t : ByteArray} (h : t.toList.isEmpty = false) : leafL 1 csT nm t = partL nm t := by
  unfold leafL partL
  rw [if_neg (by rw [h]; simp), if_neg (by rw [h]; simp)]
  rfl
theorem part_none {nm t : ByteArray} (h : t.toList.isEmpty = true) : partL nm t = [] := by unfold partL; rw [if_pos h]
theorem showW_empty {k : Int} (h : 0 ≤ k ∧ k ≤ 4) : (showW k).toList.isEmpty = decide (k = 0) := by
  have hc : k = 0 ∨ k = 1 ∨ k = 2 ∨ k = 3 ∨ k = 4 := by omega
  rcases hc with rfl | rfl | rfl | rfl | rfl
  · rw [ByteArray.toList_eq]; rfl
  · rw [ByteArray.toList_eq]; rfl
  · rw [ByteArray.toList_eq]; rfl
  · rw [ByteArray.toList_eq]; rfl
  · rw [ByteArray.toList_eq]; rfl
theorem numT_full (n : Int) : (numT n).toList.isEmpty = false := by
  have hp := digT_pos n.natAbs
  have h : 1 ≤ (numT n).size := by
    unfold numT
    split
    · rw [ByteArray.size_append]; omega
    · exact hp
  rw [ByteArray.toList_eq]
  cases hd : (numT n).data.toList with
  | nil =>
    have hl : (numT n).data.toList.length = (numT n).size := by simp
    rw [hd] at hl
    simp at hl
    omega
  | cons x t => rfl
theorem rowS_at {w : World} {b n cap : Nat} {ts : List ByteArray} (h : RowS w (.slice (some ⟨b, 0, none⟩) n cap) ts) {k : Nat} (hk : k < ts.length) : w.cell? ⟨b, k, none⟩ = some (.string (ts.getD k ByteArray.empty)) := by
  rcases h with ⟨hv, _⟩ | ⟨b', o, cap', hv, _, _, _, hc⟩
  · cases hv
  · simp only [Value.slice.injEq, Option.some.injEq, Addr.mk.injEq] at hv
    obtain ⟨⟨rfl, rfl, _⟩, _, _⟩ := hv
    simpa using hc k hk
def AttrOn (W0 W : World) (v : Value) (es : List At) (en : Ending) (w' : World) : Prop :=
  ∃ (a : Option Addr) (n c : Nat), en = .returned (.slice a n c) ∧ w'.ownsRow W0.heap.size 52 2 (.slice a n c) n (flatA es) ∧ n = es.length ∧ Below W0.heap.size W0 w' ∧ W.grownBy w' v.ownBlock
theorem addAt_le (es : List At) (nm s : ByteArray) : (addAt es nm s).length ≤ es.length + 1 := by unfold addAt; split <;> simp
theorem attr_on (W0 : World) (a : Option Addr) (n c : Nat) (es : List At) (nm s : ByteArray) (W : World) (hb : Below W0.heap.size W0 W) (hn : n ≤ 1000) (h : W.ownsRow W0.heap.size 52 2 (.slice a n c) n (flatA es)) :
    Calls Tryz.prog 65 #[.slice a n c, .string nm, .string s] W (AttrOn W0 W (.slice a n c) (addAt es nm s)) :=
  (l7Attr_any W0.heap.size a n c es nm s W hb.size hn h).mono fun e w' ⟨a', n', c', h1, h2, h3, _⟩ => ⟨a', n', c', h1, h2, by have := h2.1; rw [flatA_length] at this; omega, hb.grown h3 hb.size (fun j hj => (h.lt j hj).1), h3⟩
theorem leaf_on (B : Nat) (V : World) (a : Option Addr) (n c : Nat) (l : List It) (A0 : Nat → Option Addr) (N0 C0 : Nat → Nat) (nm t : ByteArray) (W : World) (hB : B ≤ V.heap.size) (hb : Below B V W) (hn : n ≤ 1000) (ht : t.toList.isEmpty = false) (v0 : Value) (hv0 : v0 = .slice a n c) (h : GrowIts W B (.slice a n c) n l A0 N0 C0) :
    Calls Tryz.prog 38 #[.slice a n c, .int .i64 1, .string csT, .string nm, .string t] W fun en w' =>
      ∃ (a : Option Addr) (n c : Nat) (A : Nat → Option Addr) (N C : Nat → Nat), en = .returned (.slice a n c) ∧ GrowIts w' B (.slice a n c) n (l ++ partL nm t) A N C ∧ Below B V w' ∧ W.grownBy w' v0.ownBlock ∧ ((Value.slice a n c).ownBlock = v0.ownBlock ∨ ∃ g, (Value.slice a n c).ownBlock = some g ∧ W.heap.size ≤ g) ∧ ∀ i, i < l.length → A i = A0 i ∧ N i = N0 i ∧ C i = C0 i :=
  (l7LeafA_any B a n c l A0 N0 C0 1 csT nm t W (Nat.le_trans hB hb.size) hn (by omega) h).mono fun e w' ⟨a', n', c', A', N', C', h1, h2, h3, h4, h5⟩ => ⟨a', n', c', A', N', C', h1, by rw [leaf_part ht] at h2; exact h2, grown_on hb hB h h3, by rw [hv0]; exact h3, by rw [hv0]; exact h4, h5⟩
theorem part_bare {nm t : ByteArray} : ∀ x ∈ partL nm t, x.attrs = [] := by
  intro x hx
  unfold partL at hx
  split at hx
  · cases hx
  · simp only [List.mem_cons, List.not_mem_nil, or_false] at hx
    rcases hx with rfl | rfl <;> rfl
theorem PrAt.kept {B : Nat} {w w' : World} {b : Nat} {p : Pr} {a : Option Addr} {n c : Nat} (h : PrAt w b p a n c) (hb : Below B w w') (hB : b < B) : PrAt w' b p a n c :=
  ⟨Nat.lt_of_lt_of_le h.lt hb.size, (hb.cell (by exact hB)).trans h.c0, (hb.cell (by exact hB)).trans h.c1, (hb.cell (by exact hB)).trans h.c2, (hb.cell (by exact hB)).trans h.c3, (hb.cell (by exact hB)).trans h.c4, (hb.cell (by exact hB)).trans h.c5, (hb.cell (by exact hB)).trans h.c6⟩
theorem slice_nil {w : World} {base : Nat} {e : TypeId} {size n c : Nat} {a : Option Addr} {xs : List Value} (h : w.ownsRow base e size (.slice a n c) n xs) : a = none → c = 0 := fun e => by
  subst e
  rcases h.2 with ⟨hv, _⟩ | ⟨g, cap, cur, hv, _⟩
  · simp only [Value.slice.injEq] at hv
    exact hv.2.2
  · cases hv
theorem off3 {W : World} {R : Nat} {o : Nat} {x : Value} {p q r : Addr} {v1 v2 v3 : Value} (h : W.cell? p = some v1 ∧ W.cell? q = some v2 ∧ W.cell? r = some v3) (h1 : p.block ≠ R) (h2 : q.block ≠ R) (h3 : r.block ≠ R) :
    (W.setCell ⟨R, o, none⟩ x).cell? p = some v1 ∧ (W.setCell ⟨R, o, none⟩ x).cell? q = some v2 ∧ (W.setCell ⟨R, o, none⟩ x).cell? r = some v3 := by
  have ho := Only.set (P := fun i => i = R) W ⟨R, o, none⟩ x rfl
  exact ⟨(ho.cell (World.block_lt_of_cell? W _ h.1) h1).trans h.1, (ho.cell (World.block_lt_of_cell? W _ h.2.1) h2).trans h.2.1, (ho.cell (World.block_lt_of_cell? W _ h.2.2) h3).trans h.2.2⟩
theorem off1 {W : World} {R : Nat} {o : Nat} {x : Value} {p : Addr} {v1 : Value} (h : W.cell? p = some v1) (h1 : p.block ≠ R) : (W.setCell ⟨R, o, none⟩ x).cell? p = some v1 :=
  ((Only.set (P := fun i => i = R) W ⟨R, o, none⟩ x rfl).cell (World.block_lt_of_cell? W _ h) h1).trans h
def GrewIts (w : World) (l : List It) (e : Ending) (w' : World) : Prop := ∃ (B : Nat) (a : Option Addr) (n c : Nat) (A : Nat → Option Addr) (N C : Nat → Nat), e = .returned (.slice a n c) ∧ w.heap.size ≤ B ∧ GrowIts w' B (.slice a n c) n l A N C ∧ RootRow w' B (.slice a n c) l A N C ∧ OwnIts w' w.heap.size w'.heap.size a n c l ∧ Below w.heap.size w w'
set_option maxRecDepth 100000 in
set_option maxHeartbeats 3200000 in
theorem specTreeG_any (b : Nat) (p : Pr) (a : Option Addr) (n c lo hi : Nat) (w : World) (hP : PrAt w b p a n c) (hg : MildPr p) (hsm : SmallPr p) (h : OwnIts w lo hi a n c p.more) :
    Calls Tryz.prog 35 #[.pointer (some ⟨b, 0, none⟩)] w (GrewIts w (treeL p)) := by
  obtain ⟨i0, hi0, hz0, hi1, hz2⟩ := info_parts itemInfo
  have hbw := hP.lt
  have hk := hg.kind
  have hs := hg.shown
  have hpr := hg.prio
  have hfew : n ≤ 20 := by have := hg.few; have := h.len; omega
  have HLN := Lib.hid h.len
  have HAT := Lib.hid (fun i => attrs3_small (p := p) (by have := hsm.texts; omega) (by have := hsm.texts; omega) i)
  have HSI := Lib.hid hsm.more.2
  have HWD := Lib.hid (wide_headM hg (by have := hsm.texts; omega))
  have HGD := Lib.hid hg.depth
  have HX : Hid (∀ l, headL p ++ movedTo p.more 0 p.more.length 1 = l → treeL p = l) := Lib.hid fun l e => e
  have HRT : Hid (rootI p = ⟨0, ⟨#[]⟩, csT, prT, attrs3 p⟩) := Lib.hid rfl
  have HR : Hid ((([rootI p] ++ partL showNm (showW p.shown)) ++ partL statusNm p.status) ++ partL prioNm (prioT p.prio) = headL p) := Lib.hid rfl
  have HA : Hid (addAt (addAt (addAt [] fromT p.sender) toT p.goal) typeT (kindW p.kind) = attrs3 p) := Lib.hid rfl
  have HLE := Lib.hid (headL_len p)
  have HATL : Hid ((attrs3 p).length ≤ 3) := Lib.hid (by have := filled_le [⟨fromT, p.sender⟩, ⟨toT, p.goal⟩, ⟨typeT, kindW p.kind⟩]; rw [filled_three] at this; exact this)
  have HPOS := Lib.hid (headL_pos p)
  have HSE := Lib.hid (showW_empty hs)
  have HPE : Hid (prioT p.prio = if p.prio = 0 then ⟨#[]⟩ else numT p.prio) := Lib.hid rfl
  have KALL := Lib.hid (fun W (hb : Below w.heap.size w W) => specAll_any lo hi a n c 1 p.more W (fun i hi => by have := HGD.out i (by have := HLN.out; omega); omega) (by omega) (fun i hi => (hsm.more.2 i (by have := HLN.out; omega)).2.1) (h.below hb))
  clear hg hsm h
  generalize treeL p = TL at HX ⊢
  generalize headL p = HL at HR HX HLE HWD HPOS
  generalize rootI p = RI at HR HRT
  generalize attrs3 p = AT at HRT HAT HA HATL
  unfold csT prT at HRT
  have PW := Lib.hid hP
  clear hP
  obtain ⟨pk, pf, pt, ps, pu, pp, pm⟩ := p
  dsimp only at PW hk hs hpr HR HX HGD HLN HSI HA HSE HPE KALL
  obtain ⟨mk, rfl⟩ : ∃ mk : Nat, pk = (mk : Int) := ⟨pk.toNat, by omega⟩
  obtain ⟨ms, rfl⟩ : ∃ ms : Nat, ps = (ms : Int) := ⟨ps.toNat, by omega⟩
  have hmk : mk < 7 := by omega
  have hms : ms < 5 := by omega
  have HKC : Hid (∀ W bb, RowS W (.slice (some ⟨bb, 0, none⟩) 7 7) kindWs → W.cell? ⟨bb, mk, none⟩ = some (.string (kindW (mk : Int)))) := Lib.hid fun W bb h => rowS_at h (show mk < kindWs.length from hmk)
  have HSC : Hid (∀ W bb, RowS W (.slice (some ⟨bb, 0, none⟩) 5 5) showWs → W.cell? ⟨bb, ms, none⟩ = some (.string (showW (ms : Int)))) := Lib.hid fun W bb h => rowS_at h (show ms < showWs.length from hms)
  generalize kindW (mk : Int) = kw at HA HKC
  generalize showW (ms : Int) = sw at HR HSE HSC
  generalize prioT pp = pw at HR HPE
  have hmk7 : (mk : Int) < (7 : Int) := by omega
  have hms5 : (ms : Int) < (5 : Int) := by omega
  have hmk0 : (0 : Int) ≤ (mk : Int) := by omega
  have hms0 : (0 : Int) ≤ (ms : Int) := by omega
  go_enter Tryz.func35, Tryz.ntmps35
  go_wp2_with fail
  have P0 := PW.out.below (below1 w (.cells #[.int .i64 0, .string ⟨#[]⟩, .string ⟨#[106, 97, 98, 98, 101, 114, 58, 99, 108, 105, 101, 110, 116]⟩, .string ⟨#[112, 114, 101, 115, 101, 110, 99, 101]⟩, .slice none 0 0] 54))
  have BW := Lib.hid (below1 w (.cells #[.int .i64 0, .string ⟨#[]⟩, .string ⟨#[106, 97, 98, 98, 101, 114, 58, 99, 108, 105, 101, 110, 116]⟩, .string ⟨#[112, 114, 101, 115, 101, 110, 99, 101]⟩, .slice none 0 0] 54))
  have r0 : (w.alloc (.cells #[.int .i64 0, .string ⟨#[]⟩, .string ⟨#[106, 97, 98, 98, 101, 114, 58, 99, 108, 105, 101, 110, 116]⟩, .string ⟨#[112, 114, 101, 115, 101, 110, 99, 101]⟩, .slice none 0 0] 54)).cell? ⟨w.heap.size, 0, none⟩ = some (.int .i64 0) := by simp
  have r1 : (w.alloc (.cells #[.int .i64 0, .string ⟨#[]⟩, .string ⟨#[106, 97, 98, 98, 101, 114, 58, 99, 108, 105, 101, 110, 116]⟩, .string ⟨#[112, 114, 101, 115, 101, 110, 99, 101]⟩, .slice none 0 0] 54)).cell? ⟨w.heap.size, 1, none⟩ = some (.string ⟨#[]⟩) := by simp
  have r2 : (w.alloc (.cells #[.int .i64 0, .string ⟨#[]⟩, .string ⟨#[106, 97, 98, 98, 101, 114, 58, 99, 108, 105, 101, 110, 116]⟩, .string ⟨#[112, 114, 101, 115, 101, 110, 99, 101]⟩, .slice none 0 0] 54)).cell? ⟨w.heap.size, 2, none⟩ = some (.string ⟨#[106, 97, 98, 98, 101, 114, 58, 99, 108, 105, 101, 110, 116]⟩) := by simp
  have r3 : (w.alloc (.cells #[.int .i64 0, .string ⟨#[]⟩, .string ⟨#[106, 97, 98, 98, 101, 114, 58, 99, 108, 105, 101, 110, 116]⟩, .string ⟨#[112, 114, 101, 115, 101, 110, 99, 101]⟩, .slice none 0 0] 54)).cell? ⟨w.heap.size, 3, none⟩ = some (.string ⟨#[112, 114, 101, 115, 101, 110, 99, 101]⟩) := by simp
  have r4 : (w.alloc (.cells #[.int .i64 0, .string ⟨#[]⟩, .string ⟨#[106, 97, 98, 98, 101, 114, 58, 99, 108, 105, 101, 110, 116]⟩, .string ⟨#[112, 114, 101, 115, 101, 110, 99, 101]⟩, .slice none 0 0] 54)).cell? ⟨w.heap.size, 4, none⟩ = some (.slice none 0 0) := by simp
  have f4 : (w.alloc (.cells #[.int .i64 0, .string ⟨#[]⟩, .string ⟨#[106, 97, 98, 98, 101, 114, 58, 99, 108, 105, 101, 110, 116]⟩, .string ⟨#[112, 114, 101, 115, 101, 110, 99, 101]⟩, .slice none 0 0] 54)).frozen? ⟨w.heap.size, 4, none⟩ = false := by go_simp
  have hR : w.heap.size < (w.alloc (.cells #[.int .i64 0, .string ⟨#[]⟩, .string ⟨#[106, 97, 98, 98, 101, 114, 58, 99, 108, 105, 101, 110, 116]⟩, .string ⟨#[112, 114, 101, 115, 101, 110, 99, 101]⟩, .slice none 0 0] 54)).heap.size := by simp
  generalize w.alloc (.cells #[.int .i64 0, .string ⟨#[]⟩, .string ⟨#[106, 97, 98, 98, 101, 114, 58, 99, 108, 105, 101, 110, 116]⟩, .string ⟨#[112, 114, 101, 115, 101, 110, 99, 101]⟩, .slice none 0 0] 54) = W0 at P0 BW r0 r1 r2 r3 r4 f4 hR ⊢
  have PQ := Lib.hid P0
  have HC : Hid (∀ W, Below W0.heap.size W0 W → (W.cell? ⟨b, 0, none⟩ = some (.int .i64 (mk : Int)) ∧ W.cell? ⟨b, 1, none⟩ = some (.string pf) ∧ W.cell? ⟨b, 2, none⟩ = some (.string pt))) := Lib.hid fun W hb => ⟨(P0.below hb).c0, (P0.below hb).c1, (P0.below hb).c2⟩
  have HRC : Hid (∀ W, Below W0.heap.size W0 W → (W.cell? ⟨w.heap.size, 0, none⟩ = some (.int .i64 0) ∧ W.cell? ⟨w.heap.size, 1, none⟩ = some (.string ⟨#[]⟩) ∧ W.cell? ⟨w.heap.size, 2, none⟩ = some (.string ⟨#[106, 97, 98, 98, 101, 114, 58, 99, 108, 105, 101, 110, 116]⟩) ∧ W.cell? ⟨w.heap.size, 3, none⟩ = some (.string ⟨#[112, 114, 101, 115, 101, 110, 99, 101]⟩) ∧ W.cell? ⟨w.heap.size, 4, none⟩ = some (.slice none 0 0) ∧ W.frozen? ⟨w.heap.size, 4, none⟩ = false)) := Lib.hid fun W hb =>
    ⟨(hb.cell (by exact hR)).trans r0, (hb.cell (by exact hR)).trans r1, (hb.cell (by exact hR)).trans r2, (hb.cell (by exact hR)).trans r3, (hb.cell (by exact hR)).trans r4, (hb.frozen (by exact hR)).trans f4⟩
  have L1 := Lib.hid (fun W (hb : Below W0.heap.size W0 W) => attr_on W0 none 0 0 [] fromT pf W hb (by decide) (World.ownsRow_nil _ _ _ _))
  have L2 := Lib.hid (fun a n c W (hb : Below W0.heap.size W0 W) (hn : n ≤ 1000) h => attr_on W0 a n c (addAt [] fromT pf) toT pt W hb hn h)
  have L3 := Lib.hid (fun a n c W (hb : Below W0.heap.size W0 W) (hn : n ≤ 1000) h => attr_on W0 a n c (addAt (addAt [] fromT pf) toT pt) typeT kw W hb hn h)
  have HL1 : Hid ((addAt [] fromT pf).length ≤ 1000) := Lib.hid (by have := addAt_le [] fromT pf; simp at this; omega)
  have HL2 : Hid ((addAt (addAt [] fromT pf) toT pt).length ≤ 1000) := Lib.hid (by have := addAt_le [] fromT pf; have := addAt_le (addAt [] fromT pf) toT pt; simp at *; omega)
  rw [HA.out] at L3
  generalize addAt [] fromT pf = E1 at L1 L2 HL1 HL2 L3
  generalize addAt E1 toT pt = E2 at L2 HL2 L3
  unfold fromT at L1
  unfold toT at L2
  unfold typeT at L3
  unfold AttrOn at L1 L2 L3
  have hS0 := HC.out W0.drew (Below.refl _ _).drew
  have hb0 : Below W0.heap.size W0 W0.drew := (Below.refl _ _).drew
  have hk1 : (⟨b, 0, none⟩ : Addr).block ≠ w.heap.size := by show b ≠ _; omega
  have hk2 : (⟨b, 1, none⟩ : Addr).block ≠ w.heap.size := by show b ≠ _; omega
  have hk3 : (⟨b, 2, none⟩ : Addr).block ≠ w.heap.size := by show b ≠ _; omega
  clear P0 r0 r1 r2 r3 r4 f4
  -- by hand
  refine wp_region_noPanic ?_
  refine wp_region_held_drew (S := (fun W => W.cell? ⟨b, 0, none⟩ = some (.int .i64 (mk : Int)) ∧ W.cell? ⟨b, 1, none⟩ = some (.string pf) ∧ W.cell? ⟨b, 2, none⟩ = some (.string pt))) (by kernel_rfl) ?_ (fun hHeld => ?_)
  · exact hS0
  refine wpAnyH_take (i := 0) (oi := _) (v := ?_) rfl (by kernel_rfl) (by kernel_rfl) (by kernel_rfl) (fun _ _ _ h => h) (Or.inl ⟨by rfl, ?_⟩) (by with_reducible assumption) ?_
  rotate_left
  · intro w hSw
    (try dsimp only at hSw)
    go_simp
    all_goals (with_reducible rfl)
  try simp only [Act.put, List.getElem_toArray, List.getElem_cons_zero, List.getElem_cons_succ, List.setIfInBounds_toArray, List.set_cons_zero, List.set_cons_succ]
  refine wpAnyH_take (i := 1) (oi := _) (v := ?_) rfl (by kernel_rfl) (by kernel_rfl) (by kernel_rfl) (fun _ _ _ h => h) (Or.inl ⟨by rfl, ?_⟩) (by with_reducible assumption) ?_
  rotate_left
  · intro w hSw
    (try dsimp only at hSw)
    go_simp
    all_goals (with_reducible rfl)
  try simp only [Act.put, List.getElem_toArray, List.getElem_cons_zero, List.getElem_cons_succ, List.setIfInBounds_toArray, List.set_cons_zero, List.set_cons_succ]
  refine wpAnyH_take (i := 2) (oi := _) (v := ?_) rfl (by kernel_rfl) (by kernel_rfl) (by kernel_rfl) (fun _ _ _ h => h) (Or.inl ⟨by rfl, ?_⟩) (by with_reducible assumption) ?_
  rotate_left
  · intro w hSw
    (try dsimp only at hSw)
    go_simp
    all_goals (with_reducible rfl)
  try simp only [Act.put, List.getElem_toArray, List.getElem_cons_zero, List.getElem_cons_succ, List.setIfInBounds_toArray, List.set_cons_zero, List.set_cons_succ]
  refine wpAnyH_take (i := 3) (oi := _) (v := ?_) rfl (by kernel_rfl) (by kernel_rfl) (by kernel_rfl) (fun _ _ _ h => h) (Or.inl ⟨by rfl, ?_⟩) (by with_reducible assumption) ?_
  rotate_left
  · intro w hSw
    (try dsimp only at hSw)
    go_simp
    all_goals (with_reducible rfl)
  try simp only [Act.put, List.getElem_toArray, List.getElem_cons_zero, List.getElem_cons_succ, List.setIfInBounds_toArray, List.set_cons_zero, List.set_cons_succ]
  refine wpAnyH_take (i := 5) (oi := _) (v := ?_) rfl (by kernel_rfl) (by kernel_rfl) (by kernel_rfl) (fun _ _ _ h => h) (Or.inl ⟨by rfl, ?_⟩) (by with_reducible assumption) ?_
  rotate_left
  · intro w hSw
    (try dsimp only at hSw)
    go_simp
    all_goals (with_reducible rfl)
  try simp only [Act.put, List.getElem_toArray, List.getElem_cons_zero, List.getElem_cons_succ, List.setIfInBounds_toArray, List.set_cons_zero, List.set_cons_succ]
  refine wpAnyH_take (i := 6) (oi := _) (v := ?_) rfl (by kernel_rfl) (by kernel_rfl) (by kernel_rfl) (fun _ _ _ h => h) (Or.inl ⟨by rfl, ?_⟩) (by with_reducible assumption) ?_
  rotate_left
  · intro w hSw
    (try dsimp only at hSw)
    go_simp
    all_goals (with_reducible rfl)
  try simp only [Act.put, List.getElem_toArray, List.getElem_cons_zero, List.getElem_cons_succ, List.setIfInBounds_toArray, List.set_cons_zero, List.set_cons_succ]
  refine wpAnyH_take (i := 7) (oi := _) (v := ?_) rfl (by kernel_rfl) (by kernel_rfl) (by kernel_rfl) (fun _ _ _ h => h) (Or.inl ⟨by rfl, ?_⟩) (by with_reducible assumption) ?_
  rotate_left
  · intro w hSw
    (try dsimp only at hSw)
    go_simp
    all_goals (with_reducible rfl)
  try simp only [Act.put, List.getElem_toArray, List.getElem_cons_zero, List.getElem_cons_succ, List.setIfInBounds_toArray, List.set_cons_zero, List.set_cons_succ]
  refine wpAnyH_take (i := 8) (oi := _) (v := ?_) rfl (by kernel_rfl) (by kernel_rfl) (by kernel_rfl) (fun _ _ _ h => h) (Or.inl ⟨by rfl, ?_⟩) (by with_reducible assumption) ?_
  rotate_left
  · intro w hSw
    (try dsimp only at hSw)
    go_simp
    all_goals (with_reducible rfl)
  try simp only [Act.put, List.getElem_toArray, List.getElem_cons_zero, List.getElem_cons_succ, List.setIfInBounds_toArray, List.set_cons_zero, List.set_cons_succ]
  refine wpAnyH_take (i := 11) (oi := _) (v := ?_) rfl (by kernel_rfl) (by kernel_rfl) (by kernel_rfl) (fun _ _ _ h => h) (Or.inl ⟨by rfl, ?_⟩) (by with_reducible assumption) ?_
  rotate_left
  · intro w hSw
    (try dsimp only at hSw)
    go_simp
    all_goals (with_reducible rfl)
  try simp only [Act.put, List.getElem_toArray, List.getElem_cons_zero, List.getElem_cons_succ, List.setIfInBounds_toArray, List.set_cons_zero, List.set_cons_succ]
  refine wpAnyH_take (i := 12) (oi := _) (v := ?_) rfl (by kernel_rfl) (by kernel_rfl) (by kernel_rfl) (fun _ _ _ h => h) (Or.inl ⟨by rfl, ?_⟩) (by with_reducible assumption) ?_
  rotate_left
  · intro w hSw
    (try dsimp only at hSw)
    go_simp
    all_goals (with_reducible rfl)
  try simp only [Act.put, List.getElem_toArray, List.getElem_cons_zero, List.getElem_cons_succ, List.setIfInBounds_toArray, List.set_cons_zero, List.set_cons_succ]
  refine wpAnyH_take (i := 13) (oi := _) (v := ?_) rfl (by kernel_rfl) (by kernel_rfl) (by kernel_rfl) (fun _ _ _ h => h) (Or.inl ⟨by rfl, ?_⟩) (by with_reducible assumption) ?_
  rotate_left
  · intro w hSw
    (try dsimp only at hSw)
    go_simp
    all_goals (with_reducible rfl)
  try simp only [Act.put, List.getElem_toArray, List.getElem_cons_zero, List.getElem_cons_succ, List.setIfInBounds_toArray, List.set_cons_zero, List.set_cons_succ]
  refine wpAnyH_take (i := 14) (oi := _) (v := ?_) rfl (by kernel_rfl) (by kernel_rfl) (by kernel_rfl) (fun _ _ _ h => h) (Or.inl ⟨by rfl, ?_⟩) (by with_reducible assumption) ?_
  rotate_left
  · intro w hSw
    (try dsimp only at hSw)
    go_simp
    all_goals (with_reducible rfl)
  try simp only [Act.put, List.getElem_toArray, List.getElem_cons_zero, List.getElem_cons_succ, List.setIfInBounds_toArray, List.set_cons_zero, List.set_cons_succ]
  refine wpAnyH_ready (rs := [4]) (by kernel_rfl) (by simp) ?_
  refine AllReadyH.cons (o := _) rfl (fun K hK => ?_) AllReadyH.nil
  go_simp
  refine (L1.out _ hb0).mono ?_
  rintro e w1 ⟨a1, n1, c1, rfl, ho1, hn1, hbr1, _⟩
  have HN1 := Lib.hid hn1
  clear hn1
  go_wp2_with fail
  refine hK.out _ _ ?_ (fun hHeld => ?_)
  · exact HC.out _ hbr1
  clear hK K
  try simp only [Act.put, List.getElem_toArray, List.getElem_cons_zero, List.getElem_cons_succ, List.setIfInBounds_toArray, List.set_cons_zero, List.set_cons_succ]
  refine wpAnyH_ready (rs := [9]) (by kernel_rfl) (by simp) ?_
  refine AllReadyH.cons (o := _) rfl (fun K hK => ?_) AllReadyH.nil
  go_simp
  refine (L2.out _ _ _ _ hbr1 (by rw [HN1.out]; exact HL1.out) ho1).mono ?_
  rintro e w2 ⟨a2, n2, c2, rfl, ho2, hn2, hbr2, _⟩
  have HN2 := Lib.hid hn2
  clear hn2
  go_wp2_with fail
  refine hK.out _ _ ?_ (fun hHeld => ?_)
  · exact HC.out _ hbr2
  clear hK K
  try simp only [Act.put, List.getElem_toArray, List.getElem_cons_zero, List.getElem_cons_succ, List.setIfInBounds_toArray, List.set_cons_zero, List.set_cons_succ]
  refine wpAnyH_ready (rs := [10]) (by kernel_rfl) (by simp) ?_
  refine AllReadyH.cons (o := _) rfl (fun K hK => ?_) AllReadyH.nil
  go_simp
  refine (l7Kinds_row _).mono ?_
  rintro e w3 ⟨rfl, hrow, hbq⟩
  have hbr3 := below_then hbr2 hbq
  have hkc := HKC.out _ _ hrow
  have ho3 := owns_below ho2 hbq
  have hk4 : (⟨w2.heap.size, mk, none⟩ : Addr).block ≠ w.heap.size := by show w2.heap.size ≠ _; have := hbr2.size; omega
  go_wp2_with fail
  refine hK.out _ _ ?_ (fun hHeld => ?_)
  · exact HC.out _ hbr3
  clear hK K
  try simp only [Act.put, List.getElem_toArray, List.getElem_cons_zero, List.getElem_cons_succ, List.setIfInBounds_toArray, List.set_cons_zero, List.set_cons_succ]
  refine wpAnyH_mono (S' := (fun W => (W.cell? ⟨b, 0, none⟩ = some (.int .i64 (mk : Int)) ∧ W.cell? ⟨b, 1, none⟩ = some (.string pf) ∧ W.cell? ⟨b, 2, none⟩ = some (.string pt)) ∧ W.cell? ⟨w2.heap.size, mk, none⟩ = some (.string kw))) (fun _ h => h.1) _ _ _ _ ?_
  have hHeld2 := And.intro hHeld hkc
  refine wpAnyH_take (i := 15) (oi := _) (v := ?_) rfl (by kernel_rfl) (by kernel_rfl) (by kernel_rfl) (fun _ _ _ h => h) (Or.inl ⟨by rfl, ?_⟩) (by with_reducible assumption) ?_
  rotate_left
  · intro w hSw
    (try dsimp only at hSw)
    go_simp
    all_goals (with_reducible rfl)
  try simp only [Act.put, List.getElem_toArray, List.getElem_cons_zero, List.getElem_cons_succ, List.setIfInBounds_toArray, List.set_cons_zero, List.set_cons_succ]
  refine wpAnyH_take (i := 16) (oi := _) (v := ?_) rfl (by kernel_rfl) (by kernel_rfl) (by kernel_rfl) (fun _ _ _ h => h) (Or.inl ⟨by rfl, ?_⟩) (by with_reducible assumption) ?_
  rotate_left
  · intro w hSw
    (try dsimp only at hSw)
    go_simp
    all_goals (with_reducible rfl)
  try simp only [Act.put, List.getElem_toArray, List.getElem_cons_zero, List.getElem_cons_succ, List.setIfInBounds_toArray, List.set_cons_zero, List.set_cons_succ]
  refine wpAnyH_ready (rs := [17]) (by kernel_rfl) (by simp) ?_
  refine AllReadyH.cons (o := _) rfl (fun K hK => ?_) AllReadyH.nil
  go_simp
  refine (L3.out _ _ _ _ hbr3 (by rw [HN2.out]; exact HL2.out) ho3).mono ?_
  rintro e w4 ⟨a4, n4, c4, rfl, ho4, hn4, hbr4, hg4⟩
  have hkc4 : w4.cell? ⟨w2.heap.size, mk, none⟩ = some (.string kw) := hg4.cell hkc (fun e => absurd (ho2.lt _ e.symm).2 (Nat.lt_irrefl _))
  have HN4 := Lib.hid hn4
  clear hn4
  obtain ⟨r0, r1, r2, r3, r4, f4⟩ := HRC.out _ hbr4
  go_wp2_with fail
  refine hK.out _ _ ?_ (fun hHeld => ?_)
  · exact ⟨HC.out _ hbr4, hkc4⟩
  clear hK K
  try simp only [Act.put, List.getElem_toArray, List.getElem_cons_zero, List.getElem_cons_succ, List.setIfInBounds_toArray, List.set_cons_zero, List.set_cons_succ]
  refine wpAnyH_take (i := 18) (oi := _) (v := ?_) rfl (by kernel_rfl) (by kernel_rfl) (by kernel_rfl) (fun _ _ _ h => h) (Or.inl ⟨by rfl, ?_⟩) (by with_reducible assumption) ?_
  rotate_left
  · intro w hSw
    (try dsimp only at hSw)
    go_simp
    all_goals (with_reducible rfl)
  try simp only [Act.put, List.getElem_toArray, List.getElem_cons_zero, List.getElem_cons_succ, List.setIfInBounds_toArray, List.set_cons_zero, List.set_cons_succ]
  refine wpAnyH_ready (rs := [19]) (by kernel_rfl) (by simp) ?_
  refine AllReadyH.cons (o := _) rfl (fun K hK => ?_) AllReadyH.nil
  go_simp
  refine hK.out _ _ ?_ (fun hHeld => ?_)
  · exact ⟨off3 (HC.out _ hbr4) hk1 hk2 hk3, off1 hkc4 hk4⟩
  clear hK K
  try simp only [Act.put, List.getElem_toArray, List.getElem_cons_zero, List.getElem_cons_succ, List.setIfInBounds_toArray, List.set_cons_zero, List.set_cons_succ]
  refine wpAnyH_done (by kernel_rfl) ?_ _
  refine NoPanic.normal ?_
  have hR5 : w.heap.size < w4.heap.size := by have := hbr4.size; omega
  have own4 : OwnAts (w4.setCell ⟨w.heap.size, 4, none⟩ (.slice a4 n4 c4)) W0.heap.size (w4.setCell ⟨w.heap.size, 4, none⟩ (.slice a4 n4 c4)).heap.size a4 n4 c4 AT := by
    have h0 := ownAts_of ho4 (by have := HN4.out; have := HATL.out; omega) HAT.out
    have h1 := h0.only (Only.set (P := fun i => i = w.heap.size) w4 ⟨w.heap.size, 4, none⟩ (.slice a4 n4 c4) rfl) fun y hy hne hq => by have := h0.in hy hne; omega
    exact ⟨h1.ats, h1.own.imp id fun ⟨b, g1, g2, g3, g4⟩ => ⟨b, g1, g2, by simpa using g3, g4⟩⟩
  have hq5 : W0.heap.size ≤ (w4.setCell ⟨w.heap.size, 4, none⟩ (.slice a4 n4 c4)).heap.size := by have := hbr4.size; simpa using this
  have hg5 := grow_root2 (w := w4.setCell ⟨w.heap.size, 4, none⟩ (.slice a4 n4 c4)) ⟨0, ⟨#[]⟩, ⟨#[106, 97, 98, 98, 101, 114, 58, 99, 108, 105, 101, 110, 116]⟩, ⟨#[112, 114, 101, 115, 101, 110, 99, 101]⟩, AT⟩ hq5 own4 (slice_nil ho4)
  dsimp only at hg5
  have hr5 : RootRow ((w4.setCell ⟨w.heap.size, 4, none⟩ (.slice a4 n4 c4)).alloc (.cells #[.int .i64 0, .string ⟨#[]⟩, .string ⟨#[106, 97, 98, 98, 101, 114, 58, 99, 108, 105, 101, 110, 116]⟩, .string ⟨#[112, 114, 101, 115, 101, 110, 99, 101]⟩, .slice a4 n4 c4] 54)) W0.heap.size (.slice (some ⟨(w4.setCell ⟨w.heap.size, 4, none⟩ (.slice a4 n4 c4)).heap.size, 0, none⟩) 1 1) [⟨0, ⟨#[]⟩, ⟨#[106, 97, 98, 98, 101, 114, 58, 99, 108, 105, 101, 110, 116]⟩, ⟨#[112, 114, 101, 115, 101, 110, 99, 101]⟩, AT⟩] (fun _ => a4) (fun _ => n4) (fun _ => c4) := by
    have h1 := owns_onlyR ho4 (Only.set (P := fun i => i = w.heap.size) w4 ⟨w.heap.size, 4, none⟩ (.slice a4 n4 c4) rfl) (fun g hg e => by have := (ho4.lt g hg).1; omega)
    refine ⟨owns_below h1 (below1 _ _), fun g hg hq => ?_, fun i h0 hi => ?_⟩
    · have h2 := (h1.lt g hg).2
      have e2 := Option.some.inj hq
      dsimp only at e2
      omega
    · simp at hi
      omega
  rw [← HRT.out] at hg5 hr5
  have G5 := Lib.hid hg5
  have R5 := Lib.hid hr5
  have BW5 := Lib.hid ((below_then BW.out hbr4).setCell (p := ⟨w.heap.size, 4, none⟩) (Nat.le_refl _) (.slice a4 n4 c4))
  have P5 := Lib.hid (((PQ.out.below hbr4).kept ((Below.refl w.heap.size w4).setCell (p := ⟨w.heap.size, 4, none⟩) (Nat.le_refl _) (.slice a4 n4 c4)) hbw))
  clear own4 hg5 hr5 hkc hkc4 hHeld hHeld2 hrow ho1 ho2 ho3 ho4 hbr1 hbr2 hbr3 hbr4 hbq hg4 hS0 hb0 hk1 hk2 hk3 hk4 L1 L2 L3 HL1 HL2 HC HRC HKC HA
  have e0 : (w4.setCell ⟨w.heap.size, 4, none⟩ (.slice a4 n4 c4)).cell? ⟨w.heap.size, 0, none⟩ = some (.int .i64 0) := by go_simp
  have e1 : (w4.setCell ⟨w.heap.size, 4, none⟩ (.slice a4 n4 c4)).cell? ⟨w.heap.size, 1, none⟩ = some (.string ⟨#[]⟩) := by go_simp
  have e2 : (w4.setCell ⟨w.heap.size, 4, none⟩ (.slice a4 n4 c4)).cell? ⟨w.heap.size, 2, none⟩ = some (.string ⟨#[106, 97, 98, 98, 101, 114, 58, 99, 108, 105, 101, 110, 116]⟩) := by go_simp
  have e3 : (w4.setCell ⟨w.heap.size, 4, none⟩ (.slice a4 n4 c4)).cell? ⟨w.heap.size, 3, none⟩ = some (.string ⟨#[112, 114, 101, 115, 101, 110, 99, 101]⟩) := by go_simp
  have e4 : (w4.setCell ⟨w.heap.size, 4, none⟩ (.slice a4 n4 c4)).cell? ⟨w.heap.size, 4, none⟩ = some (.slice a4 n4 c4) := by go_simp
  have hR6 : w.heap.size < (w4.setCell ⟨w.heap.size, 4, none⟩ (.slice a4 n4 c4)).heap.size := by simpa using hR5
  clear r0 r1 r2 r3 r4 f4
  generalize w4.setCell ⟨w.heap.size, 4, none⟩ (.slice a4 n4 c4) = V at G5 R5 BW5 P5 e0 e1 e2 e3 e4 hR6 hq5 ⊢
  have hbB : b < W0.heap.size := by omega
  have BV : Hid (Below W0.heap.size V (V.alloc (.cells #[.int .i64 0, .string ⟨#[]⟩, .string ⟨#[106, 97, 98, 98, 101, 114, 58, 99, 108, 105, 101, 110, 116]⟩, .string ⟨#[112, 114, 101, 115, 101, 110, 99, 101]⟩, .slice a4 n4 c4] 54))) := Lib.hid ((below1 V _).mono hq5)
  have d3 : (V.alloc (.cells #[.int .i64 0, .string ⟨#[]⟩, .string ⟨#[106, 97, 98, 98, 101, 114, 58, 99, 108, 105, 101, 110, 116]⟩, .string ⟨#[112, 114, 101, 115, 101, 110, 99, 101]⟩, .slice a4 n4 c4] 54)).cell? ⟨b, 3, none⟩ = some (.int .i64 (ms : Int)) := (P5.out.below (below1 V _)).c3
  have hbV : b < V.heap.size := P5.out.lt
  have HV := Lib.hid hq5
  generalize hBB : W0.heap.size = B at G5 R5 HV hbB BV
  have hBw := Lib.hid (show w.heap.size ≤ B by omega)
  clear hq5 hBB
  go_upto_region 4 with fail
  have hVV : (V.alloc (.cells #[.int .i64 0, .string ⟨#[]⟩, .string ⟨#[106, 97, 98, 98, 101, 114, 58, 99, 108, 105, 101, 110, 116]⟩, .string ⟨#[112, 114, 101, 115, 101, 110, 99, 101]⟩, .slice a4 n4 c4] 54)).heap.size = V.heap.size + 1 := by simp
  generalize V.alloc (.cells #[.int .i64 0, .string ⟨#[]⟩, .string ⟨#[106, 97, 98, 98, 101, 114, 58, 99, 108, 105, 101, 110, 116]⟩, .string ⟨#[112, 114, 101, 115, 101, 110, 99, 101]⟩, .slice a4 n4 c4] 54) = V1 at G5 R5 BV d3 hVV ⊢
  have HVV := Lib.hid hVV
  clear hVV
  have hb1 : b < V1.heap.size := World.block_lt_of_cell? _ _ d3
  clear e0 e1 e2 e3 e4
  go_upto_if 31 with fail
  go_cut [4] (fun v wx => ∃ (x : Option Addr) (m q : Nat) (A : Nat → Option Addr) (N C : Nat → Nat), v = .slice x m q ∧ GrowIts wx B (.slice x m q) m ([RI] ++ partL showNm sw) A N C ∧ RootRow wx B (.slice x m q) ([RI] ++ partL showNm sw) A N C ∧ Below B V wx)
  case first =>
    by_cases hm : ms = 0
    · subst hm
      have hse : partL showNm sw = [] := part_none (by rw [HSE.out]; rfl)
      have HSE2 := Lib.hid hse
      clear hse
      go_wp2_with fail
      go_meet
      exact ⟨_, _, _, _, _, _, rfl, by rw [HSE2.out, List.append_nil]; exact G5.out, by rw [HSE2.out, List.append_nil]; exact R5.out, BV.out⟩
    · have q1 : ((ms : Int) != 0) = true := by rw [bne_iff_ne]; omega
      have hse : sw.toList.isEmpty = false := by rw [HSE.out]; simpa using hm
      have HSE2 := Lib.hid hse
      clear hse
      go_wp2_with fail
      refine wp_region_noPanic ?_
      refine wp_region_held_drew (S := (fun W => W.cell? ⟨b, 3, none⟩ = some (.int .i64 (ms : Int)))) (by kernel_rfl) ?_ (fun hHeld => ?_)
      · exact d3
      refine wpAnyH_take (i := 0) (oi := _) (v := ?_) rfl (by kernel_rfl) (by kernel_rfl) (by kernel_rfl) (fun _ _ _ h => h) (Or.inl ⟨by rfl, ?_⟩) (by with_reducible assumption) ?_
      rotate_left
      · intro w hSw
        (try dsimp only at hSw)
        go_simp
        all_goals (with_reducible rfl)
      try simp only [Act.put, List.getElem_toArray, List.getElem_cons_zero, List.getElem_cons_succ, List.setIfInBounds_toArray, List.set_cons_zero, List.set_cons_succ]
      refine wpAnyH_take (i := 2) (oi := _) (v := ?_) rfl (by kernel_rfl) (by kernel_rfl) (by kernel_rfl) (fun _ _ _ h => h) (Or.inl ⟨by rfl, ?_⟩) (by with_reducible assumption) ?_
      rotate_left
      · intro w hSw
        (try dsimp only at hSw)
        go_simp
        all_goals (with_reducible rfl)
      try simp only [Act.put, List.getElem_toArray, List.getElem_cons_zero, List.getElem_cons_succ, List.setIfInBounds_toArray, List.set_cons_zero, List.set_cons_succ]
      refine wpAnyH_take (i := 3) (oi := _) (v := ?_) rfl (by kernel_rfl) (by kernel_rfl) (by kernel_rfl) (fun _ _ _ h => h) (Or.inl ⟨by rfl, ?_⟩) (by with_reducible assumption) ?_
      rotate_left
      · intro w hSw
        (try dsimp only at hSw)
        go_simp
        all_goals (with_reducible rfl)
      try simp only [Act.put, List.getElem_toArray, List.getElem_cons_zero, List.getElem_cons_succ, List.setIfInBounds_toArray, List.set_cons_zero, List.set_cons_succ]
      refine wpAnyH_take (i := 4) (oi := _) (v := ?_) rfl (by kernel_rfl) (by kernel_rfl) (by kernel_rfl) (fun _ _ _ h => h) (Or.inl ⟨by rfl, ?_⟩) (by with_reducible assumption) ?_
      rotate_left
      · intro w hSw
        (try dsimp only at hSw)
        go_simp
        all_goals (with_reducible rfl)
      try simp only [Act.put, List.getElem_toArray, List.getElem_cons_zero, List.getElem_cons_succ, List.setIfInBounds_toArray, List.set_cons_zero, List.set_cons_succ]
      refine wpAnyH_take (i := 5) (oi := _) (v := ?_) rfl (by kernel_rfl) (by kernel_rfl) (by kernel_rfl) (fun _ _ _ h => h) (Or.inl ⟨by rfl, ?_⟩) (by with_reducible assumption) ?_
      rotate_left
      · intro w hSw
        (try dsimp only at hSw)
        go_simp
        all_goals (with_reducible rfl)
      try simp only [Act.put, List.getElem_toArray, List.getElem_cons_zero, List.getElem_cons_succ, List.setIfInBounds_toArray, List.set_cons_zero, List.set_cons_succ]
      refine wpAnyH_ready (rs := [1]) (by kernel_rfl) (by simp) ?_
      refine AllReadyH.cons (o := _) rfl (fun K hK => ?_) AllReadyH.nil
      go_simp
      refine (l7Shows_row _).mono ?_
      rintro e w5 ⟨rfl, hrow, hbq⟩
      have hbq := below_of_drew hbq
      have hsc := HSC.out _ _ hrow
      have hd5 := (hbq.cell (p := ⟨b, 3, none⟩) hb1).trans d3
      have hg5 := G5.out.below hbq
      have hr5 := R5.out.below hbq
      have hb5 := BV.out.trans (hbq.mono (by have h1 := BV.out.size; have h2 := HV.out; omega))
      go_wp2_with fail
      refine hK.out _ _ ?_ (fun hHeld => ?_)
      · exact hd5
      clear hK K
      try simp only [Act.put, List.getElem_toArray, List.getElem_cons_zero, List.getElem_cons_succ, List.setIfInBounds_toArray, List.set_cons_zero, List.set_cons_succ]
      refine wpAnyH_mono (S' := (fun W => W.cell? ⟨b, 3, none⟩ = some (.int .i64 (ms : Int)) ∧ W.cell? ⟨V1.heap.size, ms, none⟩ = some (.string sw))) (fun _ h => h.1) _ _ _ _ ?_
      have hHeld2 : w5.cell? ⟨b, 3, none⟩ = some (.int .i64 (ms : Int)) ∧ w5.cell? ⟨V1.heap.size, ms, none⟩ = some (.string sw) := And.intro hHeld hsc
      refine wpAnyH_take (i := 6) (oi := _) (v := ?_) rfl (by kernel_rfl) (by kernel_rfl) (by kernel_rfl) (fun _ _ _ h => h) (Or.inl ⟨by rfl, ?_⟩) (by with_reducible assumption) ?_
      rotate_left
      · intro w hSw
        (try dsimp only at hSw)
        go_simp
        all_goals (with_reducible rfl)
      try simp only [Act.put, List.getElem_toArray, List.getElem_cons_zero, List.getElem_cons_succ, List.setIfInBounds_toArray, List.set_cons_zero, List.set_cons_succ]
      refine wpAnyH_take (i := 7) (oi := _) (v := ?_) rfl (by kernel_rfl) (by kernel_rfl) (by kernel_rfl) (fun _ _ _ h => h) (Or.inl ⟨by rfl, ?_⟩) (by with_reducible assumption) ?_
      rotate_left
      · intro w hSw
        (try dsimp only at hSw)
        go_simp
        all_goals (with_reducible rfl)
      try simp only [Act.put, List.getElem_toArray, List.getElem_cons_zero, List.getElem_cons_succ, List.setIfInBounds_toArray, List.set_cons_zero, List.set_cons_succ]
      refine wpAnyH_ready (rs := [8]) (by kernel_rfl) (by simp) ?_
      refine AllReadyH.cons (o := _) rfl (fun K hK => ?_) AllReadyH.nil
      go_simp
      refine (leaf_on B V _ 1 1 [RI] _ _ _ _ sw w5 HV.out hb5 (by decide) HSE2.out _ rfl hg5).mono ?_
      rintro e w6 ⟨a6, n6, c6, A6, N6, C6, rfl, hg6, hb6, hgr6, hat6, hag6⟩
      have R6 := Lib.hid (hr5.grow (by simp) hgr6 hg6 hat6 hag6 part_bare)
      clear hat6 hag6
      have hd6 := (hb6.cell (p := ⟨b, 3, none⟩) hbB).trans P5.out.c3
      have hs6 := hgr6.cell hsc (fun e => by simp [Value.ownBlock] at e; have := HVV.out; omega)
      go_wp2_with fail
      refine hK.out _ _ ?_ (fun hHeld => ?_)
      · exact ⟨hd6, hs6⟩
      clear hK K
      try simp only [Act.put, List.getElem_toArray, List.getElem_cons_zero, List.getElem_cons_succ, List.setIfInBounds_toArray, List.set_cons_zero, List.set_cons_succ]
      refine wpAnyH_take (i := 9) (oi := _) (v := ?_) rfl (by kernel_rfl) (by kernel_rfl) (by kernel_rfl) (fun _ _ _ h => h) (Or.inl ⟨by rfl, ?_⟩) (by with_reducible assumption) ?_
      rotate_left
      · intro w hSw
        (try dsimp only at hSw)
        go_simp
        all_goals (with_reducible rfl)
      try simp only [Act.put, List.getElem_toArray, List.getElem_cons_zero, List.getElem_cons_succ, List.setIfInBounds_toArray, List.set_cons_zero, List.set_cons_succ]
      refine wpAnyH_done (by kernel_rfl) ?_ _
      refine NoPanic.normal ?_
      go_wp2_with fail
      go_meet
      exact ⟨a6, n6, c6, A6, N6, C6, rfl, hg6, R6.out, hb6⟩
  case rest =>
    obtain ⟨x7, m7, q7, A7, N7, C7, rfl, hg7, hr7, hb7⟩ := hcut
    have G7 := Lib.hid hg7
    have R7 := Lib.hid hr7
    have B7 := Lib.hid hb7
    have hm7 : m7 ≤ 10 := by have h1 := hg7.len; have h2 := partL_len showNm sw; simp only [List.length_append, List.length_cons, List.length_nil] at h1; omega
    have hb7w : b < wc.heap.size := by have := hb7.size; omega
    have d4 : wc.cell? ⟨b, 4, none⟩ = some (.string pu) := (hb7.cell (p := ⟨b, 4, none⟩) hbB).trans P5.out.c4
    clear hg7 hr7 hb7 R5 G5 BV d3 hb1 HVV
    go_upto_if 45 with fail
    go_cut [4] (fun v wx => ∃ (x : Option Addr) (m q : Nat) (A : Nat → Option Addr) (N C : Nat → Nat), v = .slice x m q ∧ GrowIts wx B (.slice x m q) m (([RI] ++ partL showNm sw) ++ partL statusNm pu) A N C ∧ RootRow wx B (.slice x m q) (([RI] ++ partL showNm sw) ++ partL statusNm pu) A N C ∧ Below B V wx)
    case first =>
      cases hse : pu.toList.isEmpty
      · have HSE2 := Lib.hid hse
        go_wp2_with fail
        refine (leaf_on B V _ m7 q7 _ _ _ _ _ pu wc HV.out B7.out (by omega) HSE2.out _ rfl G7.out).mono ?_
        rintro e w6 ⟨a6, n6, c6, A6, N6, C6, rfl, hg6, hb6, hgr6, hat6, hag6⟩
        have R6 := Lib.hid (R7.out.grow (by simp) hgr6 hg6 hat6 hag6 part_bare)
        clear hgr6 hat6 hag6
        go_wp2_with fail
        go_meet
        exact ⟨a6, n6, c6, A6, N6, C6, rfl, hg6, R6.out, hb6⟩
      · have HSE2 := Lib.hid (part_none (nm := statusNm) hse)
        go_wp2_with fail
        go_meet
        exact ⟨_, _, _, _, _, _, rfl, by rw [HSE2.out, List.append_nil]; exact G7.out, by rw [HSE2.out, List.append_nil]; exact R7.out, B7.out⟩
    case rest =>
      obtain ⟨x8, m8, q8, A8, N8, C8, rfl, hg8, hr8, hb8⟩ := hcut
      have G8 := Lib.hid hg8
      have R8 := Lib.hid hr8
      have B8 := Lib.hid hb8
      have hm8 : m8 ≤ 20 := by have h1 := hg8.len; have h2 := partL_len showNm sw; have h3 := partL_len statusNm pu; simp only [List.length_append, List.length_cons, List.length_nil] at h1; omega
      have hb8w : b < wc.heap.size := by have := hb8.size; omega
      have d5 : wc.cell? ⟨b, 5, none⟩ = some (.int .i64 pp) := (hb8.cell (p := ⟨b, 5, none⟩) hbB).trans P5.out.c5
      clear hg8 hr8 hb8 R7 G7 B7 d4 hb7w
      go_upto_if 56 with fail
      go_cut [4] (fun v wx => ∃ (x : Option Addr) (m q : Nat) (A : Nat → Option Addr) (N C : Nat → Nat), v = .slice x m q ∧ GrowIts wx B (.slice x m q) m ((([RI] ++ partL showNm sw) ++ partL statusNm pu) ++ partL prioNm pw) A N C ∧ RootRow wx B (.slice x m q) ((([RI] ++ partL showNm sw) ++ partL statusNm pu) ++ partL prioNm pw) A N C ∧ Below B V wx)
      case first =>
        by_cases hp0 : pp = 0
        · have hw : pw = ⟨#[]⟩ := by rw [HPE.out, if_pos hp0]
          have HSE2 := Lib.hid (part_none (nm := prioNm) (t := pw) (by rw [hw, ByteArray.toList_eq]; rfl))
          subst hp0
          clear hw
          go_wp2_with fail
          go_meet
          exact ⟨_, _, _, _, _, _, rfl, by rw [HSE2.out, List.append_nil]; exact G8.out, by rw [HSE2.out, List.append_nil]; exact R8.out, B8.out⟩
        · have hw : pw = numT pp := by rw [HPE.out, if_neg hp0]
          have q1 : (pp != 0) = true := by rw [bne_iff_ne]; exact hp0
          have HSE2 : Hid (pw.toList.isEmpty = false) := Lib.hid (by rw [hw]; exact numT_full pp)
          have KN := Lib.hid (fun W => l7Number_any pp (by omega) (by omega) W)
          unfold TextB at KN
          rw [← hw] at KN
          clear hw hp0
          go_wp2_with fail
          refine (KN.out _).mono ?_
          rintro e w5 ⟨rfl, hb5⟩
          have G8b := Lib.hid (G8.out.below hb5)
          have R8b := Lib.hid (R8.out.below hb5)
          have B8b := Lib.hid (B8.out.trans (hb5.mono (by have h1 := B8.out.size; have h2 := HV.out; omega)))
          clear hb5
          go_wp2_with fail
          refine (leaf_on B V _ m8 q8 _ _ _ _ _ pw w5 HV.out B8b.out (by omega) HSE2.out _ rfl G8b.out).mono ?_
          rintro e w6 ⟨a6, n6, c6, A6, N6, C6, rfl, hg6, hb6, hgr6, hat6, hag6⟩
          have R6 := Lib.hid (R8b.out.grow (by simp) hgr6 hg6 hat6 hag6 part_bare)
          clear hgr6 hat6 hag6
          go_wp2_with fail
          go_meet
          exact ⟨a6, n6, c6, A6, N6, C6, rfl, hg6, R6.out, hb6⟩
      case rest =>
        obtain ⟨x9, m9, q9, A9, N9, C9, rfl, hg9, hr9, hb9⟩ := hcut
        rw [HR.out] at hg9 hr9
        have R9 := Lib.hid hr9
        have HM9 := Lib.hid hg9.len
        have hm9 : m9 ≤ 7 := by have := HLE.out; have := HM9.out; omega
        have hm0 : 0 < m9 := by have := HPOS.out; have := HM9.out; omega
        obtain ⟨y9, rfl⟩ := owns_some hg9.row (by omega)
        have G9 := Lib.hid hg9
        have B9 := Lib.hid hb9
        have hb9w : b < wc.heap.size := by have := hb9.size; omega
        have d6 : wc.cell? ⟨b, 6, none⟩ = some (.slice a n c) := (hb9.cell (p := ⟨b, 6, none⟩) hbB).trans P5.out.c6
        have BWc := Lib.hid (BW5.out.trans (hb9.mono hBw.out))
        clear hg9 hr9 hb9 R8 G8 B8 d5 hb8w
        go_wp2_with fail
        refine (KALL.out wc BWc.out).mono ?_
        rintro e w10 ⟨y, k, c10, rfl, ho10, hb10⟩
        obtain ⟨A2, N2, C2, hcl, hat2, he2⟩ := own_cells ho10
        have hk : k = n := by have := ho10.len; rw [movedTo_length] at this; omega
        subst hk
        have G10 := Lib.hid (G9.out.below hb10)
        have HB10 := Lib.hid hb10
        have HE2 := Lib.hid he2
        have B10 := Lib.hid (B9.out.trans (hb10.mono (by have h1 := B9.out.size; have h2 := HV.out; omega)))
        have HAT2 := Lib.hid hat2
        have HL2 := Lib.hid ho10.len
        have HZ := Lib.hid hb10.size
        clear ho10 hb10 hat2 he2
        go_wp2_with (at_builtin; refine wpList_append_own_at _ rfl _ _ 24 rfl B 54 i0 (.agg #[.int .i64 0, .string ByteArray.empty, .string ByteArray.empty, .string ByteArray.empty, .slice none 0 0]) 5 80 Tryz.underlying24 hi0 hz0 hi1 hz2 rfl (by decide) _ m9 _ rfl G10.out.row y k c10 (flatI (movedTo pm 0 k 1) A2 N2 C2) rfl ?c6 ?c1 ?c2 ?c3 ?c4 ?c5 ?_)
        case c6 => rw [flatI_length, HL2.out]
        case c1 => exact hcl
        case c2 => exact flatI_one _ _ _ _
        case c3 => unfold maxLen; omega
        case c4 => omega
        case c5 => have h1 := B10.out.size; have h2 := HV.out; omega
        intro v' w11 hown hgr _ hat11
        obtain ⟨a11, c11, rfl⟩ := owns_slice hown
        have ht : TL = HL ++ movedTo pm 0 k 1 := HX.out _ (by rw [HLN.out])
        have HG11 := Lib.hid (G9.out.join HB10.out HL2.out HAT2.out HE2.out (Nat.le_trans HV.out B9.out.size) hown hgr (hat11.imp id fun e => ⟨_, e, Nat.le_refl _⟩))
        have HIT : Hid (OwnIts w11 w.heap.size w11.heap.size a11 (m9 + k) c11 TL) := Lib.hid (by
          rw [ht]
          refine (HG11.out.own (by omega) fun i hi => ?_).mono hBw.out (Nat.le_refl _)
          exact wide_tree HWD.out (fun i hi => HGD.out i (by have := HLN.out; omega)) (fun i hi => HSI.out i (by have := HLN.out; omega)) i (by have := HM9.out; omega))
        have HBF : Hid (Below w.heap.size w w11) := Lib.hid (BW5.out.trans ((grown_on B10.out HV.out G10.out hgr).mono hBw.out))
        have HGF := HG11.out
        have HRF := R9.out.join HPOS.out HB10.out HL2.out HAT2.out hgr (hat11.imp id fun e => ⟨_, e, Nat.le_refl _⟩)
        rw [← ht] at HGF HRF
        have HGW := Lib.hid HGF
        have HRW := Lib.hid HRF
        clear hown hgr ht hcl hat11 HGF HRF
        go_wp2
        go_ret
        exact ⟨_, _, _, _, _, _, _, rfl, hBw.out, HGW.out, HRW.out, HIT.out, HBF.out⟩
theorem specTree_any (b : Nat) (p : Pr) (a : Option Addr) (n c lo hi : Nat) (w : World) (hP : PrAt w b p a n c) (hg : GoodPr p) (hsm : SmallPr p) (h : OwnIts w lo hi a n c p.more) :
    Calls Tryz.prog 35 #[.pointer (some ⟨b, 0, none⟩)] w (ItsOwn w (treeL p)) :=
  (specTreeG_any b p a n c lo hi w hP hg.mild hsm h).mono fun _ _ ⟨_, x, m, q, _, _, _, e, _, _, _, ho, hb⟩ => ⟨x, m, q, e, ho, hb⟩
end Go.Proofs.YtjkmgpomcnplnaaGreatDoor
