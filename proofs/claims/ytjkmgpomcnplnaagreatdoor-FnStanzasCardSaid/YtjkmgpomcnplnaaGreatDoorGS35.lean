/- spec.l7Presence. -/
import Derived.Test.YtjkmgpomcnplnaaGreatDoorGS34
import Derived.Test.YtjkmgpomcnplnaaGreatDoorGS29
import Derived.Test.YtjkmgpomcnplnaaGreatDoorGS15
import Derived.Test.YtjkmgpomcnplnaaGreatDoorGS33
import Derived.Test.YtjkmgpomcnplnaaGreatDoorGS24
import Derived.Test.YtjkmgpomcnplnaaGreatDoorGS2
import Derived.Test.YtjkmgpomcnplnaaGreatDoorGS1
import Derived.Test.YtjkmgpomcnplnaaGreatDoorGS7
import Derived.Test.YtjkmgpomcnplnaaGreatDoorGS8
import Derived.Deep.DeepCutAuto
namespace Go.Proofs.YtjkmgpomcnplnaaGreatDoor
open Go.ChangeShapes Go.WideShapes Go.ChangeAt Go.RowKit
set_option linter.unusedVariables false
set_option linter.unusedSimpArgs false
def PresRes (w : World) (r : Option Pr) (e : Ending) (w' : World) : Prop :=
  ∃ (bb : Bool) (q : Pr) (a : Option Addr) (n c : Nat), e = .returned (.tuple #[.agg #[.int .i64 q.kind, .string q.sender, .string q.goal, .int .i64 q.shown, .string q.status, .int .i64 q.prio, .slice a n c], .bool bb]) ∧ GrowOff w' w.heap.size (.slice a n c) n q.more (fun _ => False) ∧ Below w.heap.size w w' ∧ (bb = true → r = some q) ∧ (bb = false → r = none)
theorem kid_num {l : List It} (hR : Rises l) {i : Nat} (hi : i < (kidsL l 0).length) : ∃ k : Nat, (kidsL l 0).getD i 0 = (k : Int) ∧ k < l.length := by
  have h0 : 0 < l.length := hR.some
  rw [← kids_same hR h0] at hi ⊢
  rw [List.length_map] at hi
  refine ⟨(kidsUp l l.length 0).getD i 0, ?_, ?_⟩
  · rw [List.getD_eq_getElem?_getD, List.getElem?_map, List.getD_eq_getElem?_getD, List.getElem?_eq_getElem hi]; rfl
  · rw [List.getD_eq_getElem?_getD, List.getElem?_eq_getElem hi]
    exact kidsUp_lt (List.getElem_mem hi)
theorem kids_few {l : List It} (hR : Rises l) : (kidsL l 0).length ≤ 40 := by
  rw [← kids_same hR (by exact hR.some), List.length_map]
  have := kidsUp_len l l.length 0
  have := hR.few
  omega
theorem kids_none {l : List It} {ks : List Int} {f j : Nat} {s : List ByteArray × Pr} (hf : 0 < f) (h : kidOne l (ks.getD j 0).toNat s = none) : kidsF l ks f j s = none := by
  obtain ⟨g, rfl⟩ : ∃ g, f = g + 1 := ⟨f - 1, by omega⟩
  exact kidsF_stop h
theorem kids_more {l : List It} {ks : List Int} {f j : Nat} {s t : List ByteArray × Pr} (hf : 0 < f) (h : kidOne l (ks.getD j 0).toNat s = some t) : kidsF l ks f j s = kidsF l ks (f - 1) (j + 1) t := by
  obtain ⟨g, rfl⟩ : ∃ g, f = g + 1 := ⟨f - 1, by omega⟩
  exact kidsF_step h
structure PresSt (wR wr : World) (l : List It) (pb m : Nat) (kv : Value) (KL : List Int) (i : Nat) (q : Pr) (sn : List ByteArray) (sv : Value) (a : Option Addr) (n c : Nat) (r : Option Pr) : Prop where
  mt : PrMut wR wr pb q a n c
  kids : wr.ownsRow wR.heap.size 2 1 kv m (KL.map (Value.int .i64))
  seen : wr.ownsRow wR.heap.size 9 1 sv sn.length (sn.map Value.string)
  more : GrowOff wr wR.heap.size (.slice a n c) n q.more (fun k => k = pb ∨ some k = kv.ownBlock ∨ some k = sv.ownBlock)
  short : ShortPr q
  few : n ≤ i * 40
  sfew : sn.length ≤ i
  kp : kv.ownBlock ≠ some pb
  sp : sv.ownBlock ≠ some pb
  ks : ∀ g, sv.ownBlock = some g → kv.ownBlock ≠ some g
  res : r = kidsF l KL (m - i) i (sn, q)
theorem PresSt.drewN {wR wr : World} {l : List It} {pb m : Nat} {kv : Value} {KL : List Int} {i : Nat} {q : Pr} {sn : List ByteArray} {sv : Value} {a : Option Addr} {n c : Nat} {r : Option Pr} (h : PresSt wR wr l pb m kv KL i q sn sv a n c r) (nd : Nat) : PresSt wR (wr.drewN nd) l pb m kv KL i q sn sv a n c r :=
  have hb : Below wr.heap.size wr (wr.drewN nd) := below_drewN (Below.refl _ _) nd
  ⟨h.mt.keep hb, owns_below h.kids hb, owns_below h.seen hb, h.more.below hb, h.short, h.few, h.sfew, h.kp, h.sp, h.ks, h.res⟩
theorem PresSt.part {wR wr w' : World} {l : List It} {pb m : Nat} {kv : Value} {KL : List Int} {i : Nat} {q q2 : Pr} {sn : List ByteArray} {sv : Value} {a : Option Addr} {n c : Nat} {r : Option Pr} (h : PresSt wR wr l pb m kv KL i q sn sv a n c r) (ho : Only (fun i => i = pb) wr w') (hm : PrMut wR w' pb q2 a n c) :
    GrowOff w' wR.heap.size (.slice a n c) n q.more (fun k => k = pb ∨ some k = kv.ownBlock ∨ some k = sv.ownBlock) := h.more.only ho (fun i hi => .inl hi)
theorem owns_n {w : World} {B e size k n c : Nat} {a : Option Addr} {xs : List Value} (h : w.ownsRow B e size (.slice a k c) n xs) : k = n := by
  rcases h.2 with ⟨hv, h0⟩ | ⟨g, cap, cur, hv, _⟩
  · simp only [Value.slice.injEq] at hv
    omega
  · simp only [Value.slice.injEq] at hv
    exact hv.2.1
theorem rowOnlyP {P : Nat → Prop} {w w' : World} {base : Nat} {e : TypeId} {size : Nat} {v : Value} {n : Nat} {xs : List Value} (h : w.ownsRow base e size v n xs) (ho : Only P w w') (hn : ∀ k, v.ownBlock = some k → ¬ P k) : w'.ownsRow base e size v n xs := by
  refine ⟨h.1, ?_⟩
  rcases h.2 with h2 | ⟨g, cap, cur, hv, hg, hh, hnc, hm, hs, ht⟩
  · exact .inl h2
  · have hk : v.ownBlock = some g := by rw [hv]; rfl
    exact .inr ⟨g, cap, cur, hv, hg, (ho.block g (h.lt g hk).2 (hn g hk)).trans hh, hnc, hm, hs, ht⟩
theorem PrMut.only {P : Nat → Prop} {w0 w w' : World} {b : Nat} {p : Pr} {a : Option Addr} {n c : Nat} (h : PrMut w0 w b p a n c) (ho : Only P w w') (hn : ¬ P b) (hP : ∀ i, P i → w0.heap.size ≤ i) : PrMut w0 w' b p a n c := by
  have hl := h.is.lt
  have cc : ∀ i, w'.cell? ⟨b, i, none⟩ = w.cell? ⟨b, i, none⟩ := fun i => ho.cell (p := ⟨b, i, none⟩) hl hn
  exact ⟨⟨Nat.lt_of_lt_of_le hl ho.size, (cc 0).trans h.is.c0, (cc 1).trans h.is.c1, (cc 2).trans h.is.c2, (cc 3).trans h.is.c3, (cc 4).trans h.is.c4, (cc 5).trans h.is.c5, (cc 6).trans h.is.c6⟩, h.ge, Only.under h.below (Nat.le_refl _) ho hP, fun i => (ho.frozen (p := ⟨b, i, none⟩) hl hn).trans (h.fz i)⟩
theorem seen_more {wR w4 w5 w6 : World} {l : List It} {pb m kb kc i sk sc c6 : Nat} {q q5 : Pr} {sn : List ByteArray} {yn : ByteArray} {sa a6 : Option Addr} {a : Option Addr} {n c : Nat} {r : Option Pr} {o : Obj}
    (h4 : PresSt wR w4 l pb m (.slice (some ⟨kb, 0, none⟩) m kc) (kidsL l 0) i q sn (.slice sa sk sc) a n c r) (hm : PrMut wR w5 pb q5 a n c)
    (hg : GrowOff w5 wR.heap.size (.slice a n c) n q.more (fun k => k = pb ∨ some k = (Value.slice (some ⟨kb, 0, none⟩) m kc).ownBlock ∨ some k = (Value.slice sa sk sc).ownBlock))
    (hk : w5.ownsRow wR.heap.size 2 1 (.slice (some ⟨kb, 0, none⟩) m kc) m ((kidsL l 0).map (Value.int .i64))) (hs : w5.ownsRow wR.heap.size 9 1 (.slice sa sk sc) sk (sn.map Value.string)) (hsk : sk = sn.length)
    (hsh : ShortPr q5) (hmo : q5.more = q.more) (hr : r = kidsF l (kidsL l 0) (m - (i + 1)) (i + 1) (sn ++ [yn], q5))
    (hown : w6.ownsRow wR.heap.size 9 1 (.slice a6 (sk + 1) c6) (sk + 1) (sn.map Value.string ++ [Value.string yn])) (hgr : (w5.alloc o).grownBy w6 (Value.slice sa sk sc).ownBlock)
    (hat : (Value.slice a6 (sk + 1) c6).ownBlock = (Value.slice sa sk sc).ownBlock ∨ (Value.slice a6 (sk + 1) c6).ownBlock = some (w5.heap.size + 1)) :
    PresSt wR w6 l pb m (.slice (some ⟨kb, 0, none⟩) m kc) (kidsL l 0) (i + 1) q5 (sn ++ [yn]) (.slice a6 (sk + 1) c6) a n c r := by
  have ho : Only (fun k => some k = (Value.slice sa sk sc).ownBlock) w5 w6 := (Only.below (below1 w5 o)).trans (Only.grown hgr)
  have hsz : w5.heap.size + 1 ≤ w6.heap.size := by have := hgr.size; simpa using this
  have hnew : ∀ g, (Value.slice a6 (sk + 1) c6).ownBlock = some g → (Value.slice sa sk sc).ownBlock = some g ∨ g = w5.heap.size + 1 := fun g hg => by
    rcases hat with e | e
    · exact .inl (e ▸ hg)
    · rw [e] at hg
      simp only [Option.some.injEq] at hg
      exact .inr hg.symm
  have hpl := hm.is.lt
  have hkl := hk.lt
  refine ⟨hm.only ho (fun e => h4.sp e.symm) (fun k hk => (hs.lt k hk.symm).1), rowOnlyP hk ho (fun g hg e => h4.ks g e.symm hg), ?_, ?_, hsh, ?_, ?_, h4.kp, fun e => ?_, fun g hg e => ?_, hr⟩
  · rw [List.length_append, List.map_append, ← hsk]
    exact hown
  · rw [hmo]
    refine ((hg.ext (E' := fun k => (k = pb ∨ some k = (Value.slice (some ⟨kb, 0, none⟩) m kc).ownBlock ∨ some k = (Value.slice sa sk sc).ownBlock) ∨ w5.heap.size ≤ k) (fun k hk => hk.imp id .inl)).only ho (fun k hk => .inl (.inr (.inr hk)))).ext (fun k hk => ?_)
    left
    rcases hk with hk | hk | hk
    · exact .inl (.inl hk)
    · exact .inl (.inr (.inl hk))
    · rcases hnew k hk.symm with e | e
      · exact .inl (.inr (.inr e.symm))
      · exact .inr (by omega)
  · have := h4.few
    omega
  · rw [List.length_append]
    have := h4.sfew
    simp
    omega
  · rcases hnew _ e with e | e
    · exact h4.sp e
    · omega
  · rcases hnew _ hg with e2 | e2
    · exact h4.ks g e2 e
    · have := (hkl g e).2
      omega
theorem more_more {wR wr w6 w7 : World} {l : List It} {pb m kb kc i k : Nat} {q : Pr} {sn : List ByteArray} {sv : Value} {a' a7 : Option Addr} {n' c' c7 : Nat} {r : Option Pr} {A : Nat → Option Addr} {N C : Nat → Nat} {A2 : Nat → Option Addr} {N2 C2 : Nat → Nat} {l2 : List It}
    (h : PresSt wR wr l pb m (.slice (some ⟨kb, 0, none⟩) m kc) (kidsL l 0) i q sn sv a' n' c' r) (hg : GrowIts wr wR.heap.size (.slice a' n' c') n' q.more A N C) (hE1 : ∀ g, (Value.slice a' n' c').ownBlock = some g → ¬ (g = pb ∨ some g = (Value.slice (some ⟨kb, 0, none⟩) m kc).ownBlock ∨ some g = sv.ownBlock))
    (hE2 : ∀ i, i < q.more.length → ∀ x, A i = some x → N i ≠ 0 → ¬ (x.block = pb ∨ some x.block = (Value.slice (some ⟨kb, 0, none⟩) m kc).ownBlock ∨ some x.block = sv.ownBlock))
    (hb6 : Below wr.heap.size wr w6) (hl2 : l2.length = k) (hk40 : k ≤ 40) (hA2 : ∀ i, i < k → OwnAts w6 wr.heap.size w6.heap.size (A2 i) (N2 i) (C2 i) (l2.getD i dIt).attrs ∧ (A2 i = none → C2 i = 0))
    (hE3 : ∀ i j, i < k → j < k → i ≠ j → ∀ x y, A2 i = some x → A2 j = some y → N2 i ≠ 0 → N2 j ≠ 0 → x.block ≠ y.block)
    (hown : w7.ownsRow wR.heap.size 54 5 (.slice a7 (n' + k) c7) (n' + k) (flatI q.more A N C ++ flatI l2 A2 N2 C2)) (hgr : w6.grownBy w7 (Value.slice a' n' c').ownBlock)
    (hat : (Value.slice a7 (n' + k) c7).ownBlock = (Value.slice a' n' c').ownBlock ∨ (Value.slice a7 (n' + k) c7).ownBlock = some w6.heap.size)
    (hr : r = kidsF l (kidsL l 0) (m - (i + 1)) (i + 1) (sn, { q with more := q.more ++ l2 })) :
    PresSt wR (w7.setCell ⟨pb, 6, none⟩ (.slice a7 (n' + k) c7)) l pb m (.slice (some ⟨kb, 0, none⟩) m kc) (kidsL l 0) (i + 1) { q with more := q.more ++ l2 } sn sv a7 (n' + k) c7 r := by
  have ho : Only (fun g => some g = (Value.slice a' n' c').ownBlock) wr w7 := (Only.below hb6).trans (Only.grown hgr)
  have hs := Only.set (P := fun i => i = pb) w7 ⟨pb, 6, none⟩ (.slice a7 (n' + k) c7) rfl
  have hlt := hg.lts
  have hmt := h.mt.only ho (fun e => hE1 pb e.symm (.inl rfl)) (fun i hi => (hlt.1 i hi.symm).1)
  have hpl := h.mt.is.lt
  refine ⟨hmt.setMore _ _ _ _, ?_, ?_, ?_, ⟨h.short.s1, h.short.s2, h.short.s4⟩, ?_, Nat.le_succ_of_le h.sfew, h.kp, h.sp, h.ks, hr⟩
  · exact rowOnlyP (rowOnlyP h.kids ho (fun g hg he => hE1 g he.symm (.inr (.inl hg.symm)))) hs (fun g hg e => h.kp (by rw [hg, e]))
  · exact rowOnlyP (rowOnlyP h.seen ho (fun g hg he => hE1 g he.symm (.inr (.inr hg.symm)))) hs (fun g hg e => h.sp (by rw [hg, e]))
  · refine GrowOff.only (P := fun i => i = pb) ?_ hs (fun i hi => .inl hi)
    refine GrowOff.join hg hE1 hE2 (fun i hi => ?_) hb6 hl2 hA2 hE3 h.mt.below.size hown hgr (hat.imp id fun e => ⟨_, e, Nat.le_refl _⟩)
    rcases hi with hi | hi | hi
    · omega
    · exact (h.kids.lt i hi.symm).2
    · exact (h.seen.lt i hi.symm).2
  · have := h.few
    omega
set_option maxRecDepth 100000 in
set_option maxHeartbeats 6400000 in
theorem l7Presence_any (lo hi : Nat) (a : Option Addr) (n c : Nat) (l : List It) (w : World) (hc : treeCode l = 0) (h : OwnIts w lo hi a n c l) :
    Calls Tryz.prog 45 #[.slice a n c] w (PresRes w (readP l)) := by
  obtain ⟨i0, hi0, hz0, hz1, hz2⟩ := info_parts strInfo
  obtain ⟨j0, hj0, hjz0, hjz1, hjz2⟩ := info_parts itemInfo
  have hR := rises_of hc
  have hlen := h.len
  have hn1 : 0 < n := by have := hR.some; omega
  have hn40 : n ≤ 40 := by have := hR.few; omega
  have HW := Lib.hid (fun W (hW : Below w.heap.size w W) => h.below hW)
  have hits := h.its
  obtain ⟨b, o, rfl, hat⟩ := hits.row.resolve_left (by omega)
  have HIT := Lib.hid hits
  obtain ⟨wR, hwR⟩ : ∃ wR, w.alloc (.cells #[.int .i64 0, .string ⟨#[]⟩, .string ⟨#[]⟩, .int .i64 0, .string ⟨#[]⟩, .int .i64 0, .slice none 0 0] 26) = wR := ⟨_, rfl⟩
  have hRz : wR.heap.size = w.heap.size + 1 := by rw [← hwR]; simp
  have HRB : Hid (Below w.heap.size w wR) := Lib.hid (by rw [← hwR]; exact below1 _ _)
  have HBX : Hid (Box7 wR w.heap.size) := Lib.hid (by
    rw [← hwR]
    refine ⟨fun i hi => ?_, fun i => by simp⟩
    match i, hi with
    | 0, _ => exact ⟨.int .i64 0, by simp⟩
    | 1, _ => exact ⟨.string ⟨#[]⟩, by simp⟩
    | 2, _ => exact ⟨.string ⟨#[]⟩, by simp⟩
    | 3, _ => exact ⟨.int .i64 0, by simp⟩
    | 4, _ => exact ⟨.string ⟨#[]⟩, by simp⟩
    | 5, _ => exact ⟨.int .i64 0, by simp⟩
    | 6, _ => exact ⟨.slice none 0 0, by simp⟩)
  have HATR := Lib.hid (fun i (hi : i < n) => (hat i hi).below HRB.out)
  have KR := Lib.hid (fun pb p a' n' c' W (hp : PrMut wR W pb p a' n' c') => l7Root_any b o pb (l.getD 0 dIt) p a' n' c' wR W (by have := HATR.out 0 hn1; simpa using this) (atts_size hc (by omega)).1 hp)
  have HSH := Lib.hid (fun q (hq : rootP (l.getD 0 dIt) dPr = some q) => And.intro (rootP_short hc (by omega) hq) (rootP_rest hq))
  have HC := Lib.hid hc
  have HR := Lib.hid hR
  have HLEN := Lib.hid hlen
  unfold RootRes at KR
  unfold PresRes
  have q0 : (0 : Int) < (n : Int) := by omega
  have HP0 : Hid (PrMut wR (wR.alloc (.cells #[.int .i64 0, .string ⟨#[]⟩, .string ⟨#[]⟩, .int .i64 0, .string ⟨#[]⟩, .int .i64 0, .slice none 0 0] 26)) wR.heap.size dPr none 0 0) := Lib.hid (PrMut.new wR wR (Below.refl _ _) 26 dPr none 0 0)
  have HRD : Hid (readP l = match rootP (l.getD 0 dIt) dPr with | some p => kidsF l (kidsL l 0) (kidsL l 0).length 0 ([], p) | none => none) := Lib.hid rfl
  obtain ⟨rr, hrr⟩ : ∃ rr, readP l = rr := ⟨_, rfl⟩
  rw [hrr] at HRD ⊢
  clear h hits hat hc hR hlen hrr
  go_enter Tryz.func45, Tryz.ntmps45
  go_wp2_with fail
  obtain ⟨pb, hpb⟩ : ∃ pb, w.heap.size + 1 = pb := ⟨_, rfl⟩
  rw [hpb]
  rw [hRz, hpb] at HP0
  have HRZ : Hid (wR.heap.size = pb) := Lib.hid (hRz.trans hpb)
  have hwp : w.heap.size < pb := by omega
  have hpw : pb ≠ w.heap.size := by omega
  have hwpn : w.heap.size ≠ pb := by omega
  clear hwR hRz hpb
  refine (KR.out _ _ _ _ _ _ HP0.out).mono ?_
  rintro e w1 ⟨bb, q, rfl, hq, hy, hno⟩
  have HQ := Lib.hid hq
  have HY := Lib.hid hy
  have HNO := Lib.hid hno
  have z0 := hq.is.c0
  have z1 := hq.is.c1
  have z2 := hq.is.c2
  have z3 := hq.is.c3
  have z4 := hq.is.c4
  have z5 := hq.is.c5
  have z6 := hq.is.c6
  clear hq hy hno KR HP0
  obtain ⟨qk, qf, qt, qs, qu, qp, qm⟩ := q
  dsimp only at z0 z1 z2 z3 z4 z5 z6
  have HMQ : Hid (bb = true → ShortPr ⟨qk, qf, qt, qs, qu, qp, qm⟩ ∧ qm = []) := Lib.hid fun e => HSH.out _ (HY.out e)
  cases bb
  · have HRN : Hid (rr = none) := Lib.hid (by rw [HRD.out, HNO.out rfl])
    have hbx := HBX.out.below (by have := HRZ.out; omega) HQ.out.below
    obtain ⟨v0, b0⟩ := hbx.c 0 (by omega)
    obtain ⟨v1, b1⟩ := hbx.c 1 (by omega)
    obtain ⟨v2, b2⟩ := hbx.c 2 (by omega)
    obtain ⟨v3, b3⟩ := hbx.c 3 (by omega)
    obtain ⟨v4, b4⟩ := hbx.c 4 (by omega)
    obtain ⟨v5, b5⟩ := hbx.c 5 (by omega)
    obtain ⟨v6, b6⟩ := hbx.c 6 (by omega)
    have f0 := hbx.f 0
    have f1 := hbx.f 1
    have f2 := hbx.f 2
    have f3 := hbx.f 3
    have f4 := hbx.f 4
    have f5 := hbx.f 5
    have f6 := hbx.f 6
    clear HY HNO
    go_wp2
    refine bodyPost_ret (v := .tuple #[.agg #[.int .i64 qk, .string qf, .string qt, .int .i64 qs, .string qu, .int .i64 qp, .slice none 0 0], .bool false]) (by simp [results, Tryz.results45, go_sem, b0, b1, b2, b3, b4, b5, b6]) rfl ⟨false, ⟨qk, qf, qt, qs, qu, qp, []⟩, none, 0, 0, rfl, GrowOff.nil _ _ _, ((((((((HRB.out.trans (HQ.out.below.mono HRB.out.size)).setCell (p := ⟨w.heap.size, 0, none⟩) (Nat.le_refl _) _).setCell (p := ⟨w.heap.size, 1, none⟩) (Nat.le_refl _) _).setCell (p := ⟨w.heap.size, 2, none⟩) (Nat.le_refl _) _).setCell (p := ⟨w.heap.size, 3, none⟩) (Nat.le_refl _) _).setCell (p := ⟨w.heap.size, 4, none⟩) (Nat.le_refl _) _).setCell (p := ⟨w.heap.size, 5, none⟩) (Nat.le_refl _) _).setCell (p := ⟨w.heap.size, 6, none⟩) (Nat.le_refl _) _), (by simp), (fun _ => HRN.out)⟩
  · obtain ⟨hsh, rfl⟩ := HMQ.out rfl
    have HSHO := Lib.hid hsh
    have hRD := HRD.out
    rw [HY.out rfl] at hRD
    have HRD2 : Hid (rr = kidsF l (kidsL l 0) (kidsL l 0).length 0 ([], ⟨qk, qf, qt, qs, qu, qp, []⟩)) := Lib.hid hRD
    have hpl := HQ.out.is.lt
    have HSEEN : Hid (∀ W, Below (w1.alloc (.cells #[] 9)).heap.size (w1.alloc (.cells #[] 9)) W → W.ownsRow wR.heap.size 9 1 (.slice (some ⟨w1.heap.size, 0, none⟩) 0 0) 0 (([] : List ByteArray).map Value.string)) := Lib.hid (fun W hW => by
      have := World.ownsRow_lit (base := wR.heap.size) (e := 9) (size := 1) w1 #[] 0 HQ.out.below.size (by unfold maxLen; omega) rfl
      exact owns_below (by simpa using this) hW)
    have KK := Lib.hid (fun W (hW : Below w.heap.size w W) => specKids_any (some ⟨b, o, none⟩) n c 0 l W (by omega) (fun i hi => by have := (HR.out.bd i (by have := HLEN.out; omega)); unfold dp at this; omega) hn1 (HIT.out.below hW))
    unfold OwnsRes at KK
    clear HY HNO hRD hsh HRD HMQ HSH z0 z1 z2 z3 z4 z5 z6
    go_wp2_with fail
    refine (KK.out _ (HRB.out.trans ((HQ.out.below.trans ((below1 w1 _).mono HQ.out.below.size)).mono HRB.out.size))).mono ?_
    rintro e w3 ⟨ka, m, kc, rfl, hk3, hb3⟩
    have hml := owns_length hk3
    have hm40 : m ≤ 40 := by have := kids_few HR.out; omega
    have HML := Lib.hid hml
    have hb13 := below_then (below1 w1 (.cells #[] 9)) hb3
    have hsz3 := hb3.size
    have ST0 : Hid (PresSt wR w3 l pb m (.slice ka m kc) (kidsL l 0) 0 ⟨qk, qf, qt, qs, qu, qp, []⟩ [] (.slice (some ⟨w1.heap.size, 0, none⟩) 0 0) none 0 0 rr) := Lib.hid (by
      have hlk := hk3.lt
      refine ⟨HQ.out.keep hb13, owns_mono hk3 (by have := HQ.out.below.size; simp; omega), HSEEN.out _ hb3, GrowOff.nil _ _ _, HSHO.out, Nat.zero_le _, Nat.le_refl _, fun e => ?_, fun e => ?_, fun g hg e => ?_, ?_⟩
      · have := (hlk _ e).1
        simp at this
        omega
      · simp [Value.ownBlock] at e
        omega
      · have := (hlk _ e).1
        simp [Value.ownBlock] at hg
        simp at this
        omega
      · rw [HRD2.out, HML.out]
        rfl)
    clear hk3 hb3 hb13 hml HSEEN HQ HRD2 hsz3 hpl HSHO KK
    go_wp2
    go_loopw [5, 20] (fun v idx wr => ∃ (i : Nat) (q : Pr) (sn : List ByteArray) (sa : Option Addr) (sk sc : Nat) (a' : Option Addr) (n' c' : Nat), idx = .int .i64 i ∧ i ≤ m ∧ v = .slice sa sk sc ∧ PresSt wR wr l pb m (.slice ka m kc) (kidsL l 0) i q sn (.slice sa sk sc) a' n' c' rr) (fun _ i _ => m - (intOf i).toNat)
    case atStart => exact ⟨0, _, [], _, _, _, _, _, _, rfl, Nat.zero_le _, rfl, ST0.out⟩
    case round =>
      clear ST0
      obtain ⟨i, q, sn, sa, sk, sc, a', n', c', rfl, him, rfl, hst⟩ := hrel
      have HST := Lib.hid hst
      obtain ⟨xk, xf, xt, xs, xu, xp, xm⟩ := q
      by_cases hlt : i < m
      · obtain ⟨kk, hkk, hkl⟩ := kid_num HR.out (i := i) (by have := HML.out; omega)
        obtain ⟨kb, rfl⟩ : ∃ kb, ka = some ⟨kb, 0, none⟩ := by
          rcases hst.kids.2 with ⟨hv, h1⟩ | ⟨g, cap, cur, hv, _⟩
          · omega
          · simp only [Value.slice.injEq] at hv
            exact ⟨g, hv.1⟩
        have d0 : wr.cell? ⟨kb, i, none⟩ = some (.int .i64 (kk : Int)) := by
          rw [hst.kids.cellAt i (by omega), List.getElem?_map, List.getElem?_eq_getElem (by have := HML.out; omega)]
          rw [List.getD_eq_getElem?_getD, List.getElem?_eq_getElem (by have := HML.out; omega)] at hkk
          simpa using hkk
        have hkn : kk < n := by have := HLEN.out; omega
        have hit := (HATR.out kk hkn).below hst.mt.below
        have e2 := hit.c2
        have e3 := hit.c3
        have q1 : (i : Int) < (m : Int) := by omega
        have q2 : (kk : Int) < (n : Int) := by omega
        have HKK := Lib.hid hkk
        have HKN : Hid (((kidsL l 0).getD i 0).toNat = kk) := Lib.hid (by rw [hkk]; rfl)
        have HSTEP : Hid (∀ tt, kidOne l kk (sn, ⟨xk, xf, xt, xs, xu, xp, xm⟩) = some tt → rr = kidsF l (kidsL l 0) (m - (i + 1)) (i + 1) tt) := Lib.hid (fun tt htt => by
          rw [hst.res, kids_more (by omega) (by rw [HKN.out]; exact htt), show m - i - 1 = m - (i + 1) by omega])
        have HSTOP : Hid (kidOne l kk (sn, ⟨xk, xf, xt, xs, xu, xp, xm⟩) = none → rr = none) := Lib.hid (fun htt => by
          rw [hst.res, kids_none (by omega) (by rw [HKN.out]; exact htt)])
        have HNM : Hid (∃ y, l.getD kk dIt = y) := Lib.hid ⟨_, rfl⟩
        obtain ⟨y, hy⟩ := HNM.out
        have HYY := Lib.hid hy
        rw [hy] at e2 e3
        have HK1 : Hid (∀ s : List ByteArray × Pr, kidOne l kk s = if y.name.toList.isEmpty then none else if y.space.toList ≠ csL then some (s.1, { s.2 with more := s.2.more ++ movedTo l kk (endL l kk) (-1) }) else if 0 ≤ hasIx s.1 y.name then none else match partP l kk s.2 with | some q => some (s.1 ++ [y.name], q) | none => none) := Lib.hid (fun s => by unfold kidOne; rw [hy]; rfl)
        have HKC : Hid (∀ nd, (wr.drewN nd).cell? ⟨kb, i, none⟩ = some (.int .i64 (kk : Int))) := Lib.hid (fun _ => d0)
        clear hit hkk hy HNM hst
        obtain ⟨yd, yt, ys, yn, ya⟩ := y
        dsimp only at e2 e3 HK1
        cases hne : yn.toList.isEmpty
        · by_cases hsp : ys.toList = csL
          case neg =>
            have HKO : Hid (kidOne l kk (sn, ⟨xk, xf, xt, xs, xu, xp, xm⟩) = some (sn, ⟨xk, xf, xt, xs, xu, xp, xm ++ movedTo l kk (endL l kk) (-1)⟩)) := Lib.hid (by rw [HK1.out, if_neg (by rw [hne]; simp), if_pos hsp])
            have HS2 := Lib.hid (HSTEP.out _ HKO.out)
            have hsp2 : (ys.toList == [106, 97, 98, 98, 101, 114, 58, 99, 108, 105, 101, 110, 116]) = false := by rw [beq_eq_false_iff_ne]; exact hsp
            clear HSTEP HSTOP HK1 HKO hsp
            have z6 := HST.out.mt.is.c6
            have g6 := HST.out.mt.fz 6
            obtain ⟨A, N, C, hg, hE1, hE2⟩ := HST.out.more
            have HG := Lib.hid hg
            have HE1 := Lib.hid hE1
            have HE2 := Lib.hid hE2
            have hgl := hg.len
            have hn' : n' ≤ 1600 := by have := HST.out.few; omega
            have hbe := endL_bounds hkl
            have KE := Lib.hid (fun W (hW : Below w.heap.size w W) => specEnd_any (some ⟨b, o, none⟩) n c kk l W hkn (HIT.out.below hW))
            obtain ⟨E, hE⟩ : ∃ E, endL l kk = E := ⟨_, rfl⟩
            rw [hE] at hbe KE HS2
            have HML2 := Lib.hid (movedTo_length l kk E (-1))
            have KM := Lib.hid (fun W (hW : Below w.heap.size w W) => specMoved_any lo hi (some ⟨b, o, none⟩) n c kk E (-1) l W (fun i hi => by have := (HR.out.bd i (by have := HLEN.out; omega)); unfold dp at this; omega) (by decide) (fun i hi => Nat.le_trans (atts_size HC.out (by have := HLEN.out; omega)).1 (by decide)) (by omega) (by have := HLEN.out; omega) (HW.out W hW))
            unfold ItsOwnS at KM
            generalize movedTo l kk E (-1) = l2 at HS2 KM HML2
            have HBW : Hid (Below w.heap.size w wr) := Lib.hid (HRB.out.trans (HST.out.mt.below.mono HRB.out.size))
            have hkbl : kb < wr.heap.size := (HST.out.kids.lt kb rfl).2
            have hne6 : pb ≠ kb := fun e => HST.out.kp (by rw [e]; rfl)
            have hwR : wR.heap.size ≤ wr.heap.size := HST.out.mt.below.size
            have hE40 : E ≤ 40 := by have := HLEN.out; omega
            clear hg hE1 hE2 hE
            have hS0 : wr.drew.cell? ⟨kb, i, none⟩ = some (.int .i64 (kk : Int)) := d0
            have HCW : Hid (∀ W, Below wr.heap.size wr W → W.cell? ⟨kb, i, none⟩ = some (.int .i64 (kk : Int)) ∧ W.cell? ⟨pb, 6, none⟩ = some (.slice a' n' c') ∧ W.frozen? ⟨pb, 6, none⟩ = false) := Lib.hid (fun W hW => ⟨(hW.cell (p := ⟨kb, i, none⟩) hkbl).trans d0, (hW.cell (p := ⟨pb, 6, none⟩) (World.block_lt_of_cell? _ _ z6)).trans z6, (hW.frozen (p := ⟨pb, 6, none⟩) (World.block_lt_of_cell? _ _ z6)).trans g6⟩)
            have HBU : Hid (Below wr.heap.size wr wr.drew) := Lib.hid (Below.refl _ _).drew
            go_wp2_with fail
            clear z6 g6 d0
            refine wp_region_noPanic ?_
            refine wp_region_held_drew (S := (fun W => W.cell? ⟨kb, i, none⟩ = some (.int .i64 (kk : Int)))) (by kernel_rfl) ?_ (fun hHeld => ?_)
            · exact hS0
            generalize wr.drew = U at HBU hHeld ⊢
            clear hS0
            refine wpAnyH_take (i := 0) (oi := _) (v := ?_) rfl (by kernel_rfl) (by kernel_rfl) (by kernel_rfl) (fun _ _ _ h => h) (Or.inl ⟨by rfl, ?_⟩) (by with_reducible assumption) ?_
            rotate_left
            · intro w hSw
              (try dsimp only at hSw)
              go_simp
              all_goals (with_reducible rfl)
            try simp only [Act.put, List.getElem_toArray, List.getElem_cons_zero, List.getElem_cons_succ, List.setIfInBounds_toArray, List.set_cons_zero, List.set_cons_succ]
            refine wpAnyH_take (i := 2) (oi := _) (v := ?_) rfl (by kernel_rfl) (by kernel_rfl) (by kernel_rfl) (fun _ _ _ h => h) (Or.inl ⟨by rfl, ?_⟩) (by with_reducible assumption) ?_
            rotate_left
            · intro w hSw
              (try dsimp only at hSw)
              go_simp
              all_goals (with_reducible rfl)
            try simp only [Act.put, List.getElem_toArray, List.getElem_cons_zero, List.getElem_cons_succ, List.setIfInBounds_toArray, List.set_cons_zero, List.set_cons_succ]
            refine wpAnyH_take (i := 3) (oi := _) (v := ?_) rfl (by kernel_rfl) (by kernel_rfl) (by kernel_rfl) (fun _ _ _ h => h) (Or.inl ⟨by rfl, ?_⟩) (by with_reducible assumption) ?_
            rotate_left
            · intro w hSw
              (try dsimp only at hSw)
              go_simp
              all_goals (with_reducible rfl)
            try simp only [Act.put, List.getElem_toArray, List.getElem_cons_zero, List.getElem_cons_succ, List.setIfInBounds_toArray, List.set_cons_zero, List.set_cons_succ]
            refine wpAnyH_take (i := 4) (oi := _) (v := ?_) rfl (by kernel_rfl) (by kernel_rfl) (by kernel_rfl) (fun _ _ _ h => h) (Or.inl ⟨by rfl, ?_⟩) (by with_reducible assumption) ?_
            rotate_left
            · intro w hSw
              (try dsimp only at hSw)
              go_simp
              all_goals (with_reducible rfl)
            try simp only [Act.put, List.getElem_toArray, List.getElem_cons_zero, List.getElem_cons_succ, List.setIfInBounds_toArray, List.set_cons_zero, List.set_cons_succ]
            refine wpAnyH_take (i := 5) (oi := _) (v := ?_) rfl (by kernel_rfl) (by kernel_rfl) (by kernel_rfl) (fun _ _ _ h => h) (Or.inl ⟨by rfl, ?_⟩) (by with_reducible assumption) ?_
            rotate_left
            · intro w hSw
              (try dsimp only at hSw)
              go_simp
              all_goals (with_reducible rfl)
            try simp only [Act.put, List.getElem_toArray, List.getElem_cons_zero, List.getElem_cons_succ, List.setIfInBounds_toArray, List.set_cons_zero, List.set_cons_succ]
            refine wpAnyH_take (i := 6) (oi := _) (v := ?_) rfl (by kernel_rfl) (by kernel_rfl) (by kernel_rfl) (fun _ _ _ h => h) (Or.inl ⟨by rfl, ?_⟩) (by with_reducible assumption) ?_
            rotate_left
            · intro w hSw
              (try dsimp only at hSw)
              go_simp
              all_goals (with_reducible rfl)
            try simp only [Act.put, List.getElem_toArray, List.getElem_cons_zero, List.getElem_cons_succ, List.setIfInBounds_toArray, List.set_cons_zero, List.set_cons_succ]
            refine wpAnyH_take (i := 7) (oi := _) (v := ?_) rfl (by kernel_rfl) (by kernel_rfl) (by kernel_rfl) (fun _ _ _ h => h) (Or.inl ⟨by rfl, ?_⟩) (by with_reducible assumption) ?_
            rotate_left
            · intro w hSw
              (try dsimp only at hSw)
              go_simp
              all_goals (with_reducible rfl)
            try simp only [Act.put, List.getElem_toArray, List.getElem_cons_zero, List.getElem_cons_succ, List.setIfInBounds_toArray, List.set_cons_zero, List.set_cons_succ]
            refine wpAnyH_take (i := 8) (oi := _) (v := ?_) rfl (by kernel_rfl) (by kernel_rfl) (by kernel_rfl) (fun _ _ _ h => h) (Or.inl ⟨by rfl, ?_⟩) (by with_reducible assumption) ?_
            rotate_left
            · intro w hSw
              (try dsimp only at hSw)
              go_simp
              all_goals (with_reducible rfl)
            try simp only [Act.put, List.getElem_toArray, List.getElem_cons_zero, List.getElem_cons_succ, List.setIfInBounds_toArray, List.set_cons_zero, List.set_cons_succ]
            refine wpAnyH_take (i := 9) (oi := _) (v := ?_) rfl (by kernel_rfl) (by kernel_rfl) (by kernel_rfl) (fun _ _ _ h => h) (Or.inl ⟨by rfl, ?_⟩) (by with_reducible assumption) ?_
            rotate_left
            · intro w hSw
              (try dsimp only at hSw)
              go_simp
              all_goals (with_reducible rfl)
            try simp only [Act.put, List.getElem_toArray, List.getElem_cons_zero, List.getElem_cons_succ, List.setIfInBounds_toArray, List.set_cons_zero, List.set_cons_succ]
            refine wpAnyH_take (i := 10) (oi := _) (v := ?_) rfl (by kernel_rfl) (by kernel_rfl) (by kernel_rfl) (fun _ _ _ h => h) (Or.inl ⟨by rfl, ?_⟩) (by with_reducible assumption) ?_
            rotate_left
            · intro w hSw
              (try dsimp only at hSw)
              go_simp
              all_goals (with_reducible rfl)
            try simp only [Act.put, List.getElem_toArray, List.getElem_cons_zero, List.getElem_cons_succ, List.setIfInBounds_toArray, List.set_cons_zero, List.set_cons_succ]
            refine wpAnyH_take (i := 11) (oi := _) (v := ?_) rfl (by kernel_rfl) (by kernel_rfl) (by kernel_rfl) (fun _ _ _ h => h) (Or.inl ⟨by rfl, ?_⟩) (by with_reducible assumption) ?_
            rotate_left
            · intro w hSw
              (try dsimp only at hSw)
              go_simp
              all_goals (with_reducible rfl)
            try simp only [Act.put, List.getElem_toArray, List.getElem_cons_zero, List.getElem_cons_succ, List.setIfInBounds_toArray, List.set_cons_zero, List.set_cons_succ]
            refine wpAnyH_ready (rs := [1, 12]) (by kernel_rfl) (by simp) ?_
            refine AllReadyH.cons (o := _) rfl (fun K hK => ?_) (AllReadyH.cons (o := _) rfl (fun K hK => ?_) AllReadyH.nil)
            · obtain ⟨_, zz, _⟩ := HCW.out U HBU.out
              go_simp
              refine hK.out _ _ ?_ (fun hHeld => ?_)
              · exact (HCW.out _ HBU.out).1
              clear hK K
              try simp only [Act.put, List.getElem_toArray, List.getElem_cons_zero, List.getElem_cons_succ, List.setIfInBounds_toArray, List.set_cons_zero, List.set_cons_succ]
              clear zz
              refine wpAnyH_ready (rs := [12]) (by kernel_rfl) (by simp) ?_
              refine AllReadyH.cons (o := _) rfl (fun K hK => ?_) AllReadyH.nil
              go_simp
              refine (KE.out _ (HBW.out.trans (HBU.out.mono HBW.out.size))).mono ?_
              rintro e w4 ⟨rfl, nd, rfl⟩
              have HB4 := Lib.hid (HBU.out.trans ((below_drewN (Below.refl U.heap.size U) nd).mono HBU.out.size))
              generalize U.drewN nd = w4 at HB4 ⊢
              go_wp2_with fail
              refine hK.out _ _ ?_ (fun hHeld => ?_)
              · exact (HCW.out _ HB4.out).1
              clear hK K
              try simp only [Act.put, List.getElem_toArray, List.getElem_cons_zero, List.getElem_cons_succ, List.setIfInBounds_toArray, List.set_cons_zero, List.set_cons_succ]
              refine wpAnyH_ready (rs := [13]) (by kernel_rfl) (by simp) ?_
              refine AllReadyH.cons (o := _) rfl (fun K hK => ?_) AllReadyH.nil
              go_simp
              refine (KM.out _ (HBW.out.trans (HB4.out.mono HBW.out.size))).mono ?_
              rintro e w6 ⟨y, k2, c6, rfl, ho6, hb6⟩
              obtain ⟨A2, N2, C2, hcl6, hat6, hE6⟩ := own_cells ho6
              have HB6 := Lib.hid (HB4.out.trans (hb6.mono HB4.out.size))
              have hk2 : l2.length = k2 := ho6.len
              have hat6 : ∀ i, i < k2 → OwnAts w6 wr.heap.size w6.heap.size (A2 i) (N2 i) (C2 i) (l2.getD i dIt).attrs ∧ (A2 i = none → C2 i = 0) := fun i hi => ⟨⟨(hat6 i hi).1.ats, (hat6 i hi).1.own.imp id fun ⟨b, g1, g2, g3, g4⟩ => ⟨b, g1, Nat.le_trans HB4.out.size g2, g3, g4⟩⟩, (hat6 i hi).2⟩
              have HAT6 := Lib.hid hat6
              have HE6 := Lib.hid hE6
              have HCL6 := Lib.hid hcl6
              have HK2 := Lib.hid hk2
              have hk40 : k2 ≤ 40 := by have := HML2.out; omega
              have hs6 : wr.heap.size ≤ w6.heap.size := HB6.out.size
              clear hb6 hk2 hat6 hE6 hcl6 ho6
              go_wp2_with fail
              refine hK.out _ _ ?_ (fun hHeld => ?_)
              · exact (HCW.out _ HB6.out).1
              clear hK K
              try simp only [Act.put, List.getElem_toArray, List.getElem_cons_zero, List.getElem_cons_succ, List.setIfInBounds_toArray, List.set_cons_zero, List.set_cons_succ]
              refine wpAnyH_ready (rs := [14]) (by kernel_rfl) (by simp) ?_
              refine AllReadyH.cons (o := _) rfl (fun K hK => ?_) AllReadyH.nil
              have HG6 := Lib.hid (owns_below HG.out.row HB6.out)
              refine step_own_at (by rfl) _ _ 24 rfl 54 j0 (.agg #[.int .i64 0, .string ByteArray.empty, .string ByteArray.empty, .string ByteArray.empty, .slice none 0 0]) 5 80 Tryz.underlying24 hj0 hjz0 hjz1 hjz2 rfl (by decide) wR.heap.size _ n' _ (by rfl) HG6.out y k2 c6 (flatI l2 A2 N2 C2) (by rfl) (by rw [flatI_length, HK2.out]) HCL6.out (flatI_one _ _ _ _) (by unfold maxLen; omega) (by omega) (by omega) ?_
              intro v' w7 hown' hgr hat7
              obtain ⟨a7, c7, rfl⟩ := owns_slice hown'
              obtain ⟨q6, zq6, gq6⟩ := HCW.out _ HB6.out
              have hS7 := hgr.cell q6 (fun e => HE1.out kb e.symm (.inr (.inl rfl)))
              have z67 := hgr.cell zq6 (fun e => HE1.out pb e.symm (.inl rfl))
              have g67 : w7.frozen? ⟨pb, 6, none⟩ = false := ((Only.grown hgr).frozen (p := ⟨pb, 6, none⟩) (World.block_lt_of_cell? _ _ zq6) (fun e => HE1.out pb e.symm (.inl rfl))).trans gq6
              have HST7 := Lib.hid (more_more HST.out HG.out HE1.out HE2.out HB6.out HK2.out hk40 HAT6.out HE6.out hown' hgr hat7 HS2.out)
              clear hown' hgr hat7 q6 zq6 gq6
              refine hK.out _ _ ?_ (fun hHeld => ?_)
              · exact hS7
              clear hK K
              try simp only [Act.put, List.getElem_toArray, List.getElem_cons_zero, List.getElem_cons_succ, List.setIfInBounds_toArray, List.set_cons_zero, List.set_cons_succ]
              refine wpAnyH_take (i := 15) (oi := _) (v := ?_) rfl (by kernel_rfl) (by kernel_rfl) (by kernel_rfl) (fun _ _ _ h => h) (Or.inl ⟨by rfl, ?_⟩) (by with_reducible assumption) ?_
              rotate_left
              · intro w hSw
                (try dsimp only at hSw)
                go_simp
                all_goals (with_reducible rfl)
              try simp only [Act.put, List.getElem_toArray, List.getElem_cons_zero, List.getElem_cons_succ, List.setIfInBounds_toArray, List.set_cons_zero, List.set_cons_succ]
              refine wpAnyH_ready (rs := [16]) (by kernel_rfl) (by simp) ?_
              refine AllReadyH.cons (o := _) rfl (fun K hK => ?_) AllReadyH.nil
              go_simp
              refine hK.out _ _ ?_ (fun hHeld => ?_)
              · exact ((World.cell?_setCell_other _ _ _ _ (fun q => hne6 (congrArg Addr.block q))).trans hS7)
              clear hK K
              try simp only [Act.put, List.getElem_toArray, List.getElem_cons_zero, List.getElem_cons_succ, List.setIfInBounds_toArray, List.set_cons_zero, List.set_cons_succ]
              refine wpAnyH_done (by kernel_rfl) ?_ _
              refine NoPanic.normal ?_
              clear hS7 z67 g67 HG6
              go_wp2
              go_roundw
              case rel => exact ⟨i + 1, _, sn, sa, sk, sc, a7, n' + k2, c7, by go_num, by omega, rfl, HST7.out⟩
              case measure => simp [intOf]; omega
            · go_simp
              refine (KE.out _ (HBW.out.trans (HBU.out.mono HBW.out.size))).mono ?_
              rintro e w4 ⟨rfl, nd, rfl⟩
              have HB4 := Lib.hid (HBU.out.trans ((below_drewN (Below.refl U.heap.size U) nd).mono HBU.out.size))
              generalize U.drewN nd = w4 at HB4 ⊢
              go_wp2_with fail
              refine hK.out _ _ ?_ (fun hHeld => ?_)
              · exact (HCW.out _ HB4.out).1
              clear hK K
              try simp only [Act.put, List.getElem_toArray, List.getElem_cons_zero, List.getElem_cons_succ, List.setIfInBounds_toArray, List.set_cons_zero, List.set_cons_succ]
              refine wpAnyH_ready (rs := [1, 13]) (by kernel_rfl) (by simp) ?_
              refine AllReadyH.cons (o := _) rfl (fun K hK => ?_) (AllReadyH.cons (o := _) rfl (fun K hK => ?_) AllReadyH.nil)
              · obtain ⟨_, zz, _⟩ := HCW.out _ HB4.out
                go_simp
                refine hK.out _ _ ?_ (fun hHeld => ?_)
                · exact (HCW.out _ HB4.out).1
                clear hK K
                try simp only [Act.put, List.getElem_toArray, List.getElem_cons_zero, List.getElem_cons_succ, List.setIfInBounds_toArray, List.set_cons_zero, List.set_cons_succ]
                clear zz
                refine wpAnyH_ready (rs := [13]) (by kernel_rfl) (by simp) ?_
                refine AllReadyH.cons (o := _) rfl (fun K hK => ?_) AllReadyH.nil
                go_simp
                refine (KM.out _ (HBW.out.trans (HB4.out.mono HBW.out.size))).mono ?_
                rintro e w6 ⟨y, k2, c6, rfl, ho6, hb6⟩
                obtain ⟨A2, N2, C2, hcl6, hat6, hE6⟩ := own_cells ho6
                have HB6 := Lib.hid (HB4.out.trans (hb6.mono HB4.out.size))
                have hk2 : l2.length = k2 := ho6.len
                have hat6 : ∀ i, i < k2 → OwnAts w6 wr.heap.size w6.heap.size (A2 i) (N2 i) (C2 i) (l2.getD i dIt).attrs ∧ (A2 i = none → C2 i = 0) := fun i hi => ⟨⟨(hat6 i hi).1.ats, (hat6 i hi).1.own.imp id fun ⟨b, g1, g2, g3, g4⟩ => ⟨b, g1, Nat.le_trans HB4.out.size g2, g3, g4⟩⟩, (hat6 i hi).2⟩
                have HAT6 := Lib.hid hat6
                have HE6 := Lib.hid hE6
                have HCL6 := Lib.hid hcl6
                have HK2 := Lib.hid hk2
                have hk40 : k2 ≤ 40 := by have := HML2.out; omega
                have hs6 : wr.heap.size ≤ w6.heap.size := HB6.out.size
                clear hb6 hk2 hat6 hE6 hcl6 ho6
                go_wp2_with fail
                refine hK.out _ _ ?_ (fun hHeld => ?_)
                · exact (HCW.out _ HB6.out).1
                clear hK K
                try simp only [Act.put, List.getElem_toArray, List.getElem_cons_zero, List.getElem_cons_succ, List.setIfInBounds_toArray, List.set_cons_zero, List.set_cons_succ]
                refine wpAnyH_ready (rs := [14]) (by kernel_rfl) (by simp) ?_
                refine AllReadyH.cons (o := _) rfl (fun K hK => ?_) AllReadyH.nil
                have HG6 := Lib.hid (owns_below HG.out.row HB6.out)
                refine step_own_at (by rfl) _ _ 24 rfl 54 j0 (.agg #[.int .i64 0, .string ByteArray.empty, .string ByteArray.empty, .string ByteArray.empty, .slice none 0 0]) 5 80 Tryz.underlying24 hj0 hjz0 hjz1 hjz2 rfl (by decide) wR.heap.size _ n' _ (by rfl) HG6.out y k2 c6 (flatI l2 A2 N2 C2) (by rfl) (by rw [flatI_length, HK2.out]) HCL6.out (flatI_one _ _ _ _) (by unfold maxLen; omega) (by omega) (by omega) ?_
                intro v' w7 hown' hgr hat7
                obtain ⟨a7, c7, rfl⟩ := owns_slice hown'
                obtain ⟨q6, zq6, gq6⟩ := HCW.out _ HB6.out
                have hS7 := hgr.cell q6 (fun e => HE1.out kb e.symm (.inr (.inl rfl)))
                have z67 := hgr.cell zq6 (fun e => HE1.out pb e.symm (.inl rfl))
                have g67 : w7.frozen? ⟨pb, 6, none⟩ = false := ((Only.grown hgr).frozen (p := ⟨pb, 6, none⟩) (World.block_lt_of_cell? _ _ zq6) (fun e => HE1.out pb e.symm (.inl rfl))).trans gq6
                have HST7 := Lib.hid (more_more HST.out HG.out HE1.out HE2.out HB6.out HK2.out hk40 HAT6.out HE6.out hown' hgr hat7 HS2.out)
                clear hown' hgr hat7 q6 zq6 gq6
                refine hK.out _ _ ?_ (fun hHeld => ?_)
                · exact hS7
                clear hK K
                try simp only [Act.put, List.getElem_toArray, List.getElem_cons_zero, List.getElem_cons_succ, List.setIfInBounds_toArray, List.set_cons_zero, List.set_cons_succ]
                refine wpAnyH_take (i := 15) (oi := _) (v := ?_) rfl (by kernel_rfl) (by kernel_rfl) (by kernel_rfl) (fun _ _ _ h => h) (Or.inl ⟨by rfl, ?_⟩) (by with_reducible assumption) ?_
                rotate_left
                · intro w hSw
                  (try dsimp only at hSw)
                  go_simp
                  all_goals (with_reducible rfl)
                try simp only [Act.put, List.getElem_toArray, List.getElem_cons_zero, List.getElem_cons_succ, List.setIfInBounds_toArray, List.set_cons_zero, List.set_cons_succ]
                refine wpAnyH_ready (rs := [16]) (by kernel_rfl) (by simp) ?_
                refine AllReadyH.cons (o := _) rfl (fun K hK => ?_) AllReadyH.nil
                go_simp
                refine hK.out _ _ ?_ (fun hHeld => ?_)
                · exact ((World.cell?_setCell_other _ _ _ _ (fun q => hne6 (congrArg Addr.block q))).trans hS7)
                clear hK K
                try simp only [Act.put, List.getElem_toArray, List.getElem_cons_zero, List.getElem_cons_succ, List.setIfInBounds_toArray, List.set_cons_zero, List.set_cons_succ]
                refine wpAnyH_done (by kernel_rfl) ?_ _
                refine NoPanic.normal ?_
                clear hS7 z67 g67 HG6
                go_wp2
                go_roundw
                case rel => exact ⟨i + 1, _, sn, sa, sk, sc, a7, n' + k2, c7, by go_num, by omega, rfl, HST7.out⟩
                case measure => simp [intOf]; omega
              · go_simp
                refine (KM.out _ (HBW.out.trans (HB4.out.mono HBW.out.size))).mono ?_
                rintro e w6 ⟨y, k2, c6, rfl, ho6, hb6⟩
                obtain ⟨A2, N2, C2, hcl6, hat6, hE6⟩ := own_cells ho6
                have HB6 := Lib.hid (HB4.out.trans (hb6.mono HB4.out.size))
                have hk2 : l2.length = k2 := ho6.len
                have hat6 : ∀ i, i < k2 → OwnAts w6 wr.heap.size w6.heap.size (A2 i) (N2 i) (C2 i) (l2.getD i dIt).attrs ∧ (A2 i = none → C2 i = 0) := fun i hi => ⟨⟨(hat6 i hi).1.ats, (hat6 i hi).1.own.imp id fun ⟨b, g1, g2, g3, g4⟩ => ⟨b, g1, Nat.le_trans HB4.out.size g2, g3, g4⟩⟩, (hat6 i hi).2⟩
                have HAT6 := Lib.hid hat6
                have HE6 := Lib.hid hE6
                have HCL6 := Lib.hid hcl6
                have HK2 := Lib.hid hk2
                have hk40 : k2 ≤ 40 := by have := HML2.out; omega
                have hs6 : wr.heap.size ≤ w6.heap.size := HB6.out.size
                clear hb6 hk2 hat6 hE6 hcl6 ho6
                go_wp2_with fail
                refine hK.out _ _ ?_ (fun hHeld => ?_)
                · exact (HCW.out _ HB6.out).1
                clear hK K
                try simp only [Act.put, List.getElem_toArray, List.getElem_cons_zero, List.getElem_cons_succ, List.setIfInBounds_toArray, List.set_cons_zero, List.set_cons_succ]
                refine wpAnyH_ready (rs := [1]) (by kernel_rfl) (by simp) ?_
                refine AllReadyH.cons (o := _) rfl (fun K hK => ?_) AllReadyH.nil
                obtain ⟨_, zz, _⟩ := HCW.out _ HB6.out
                go_simp
                refine hK.out _ _ ?_ (fun hHeld => ?_)
                · exact (HCW.out _ HB6.out).1
                clear hK K
                try simp only [Act.put, List.getElem_toArray, List.getElem_cons_zero, List.getElem_cons_succ, List.setIfInBounds_toArray, List.set_cons_zero, List.set_cons_succ]
                clear zz
                refine wpAnyH_ready (rs := [14]) (by kernel_rfl) (by simp) ?_
                refine AllReadyH.cons (o := _) rfl (fun K hK => ?_) AllReadyH.nil
                have HG6 := Lib.hid (owns_below HG.out.row HB6.out)
                refine step_own_at (by rfl) _ _ 24 rfl 54 j0 (.agg #[.int .i64 0, .string ByteArray.empty, .string ByteArray.empty, .string ByteArray.empty, .slice none 0 0]) 5 80 Tryz.underlying24 hj0 hjz0 hjz1 hjz2 rfl (by decide) wR.heap.size _ n' _ (by rfl) HG6.out y k2 c6 (flatI l2 A2 N2 C2) (by rfl) (by rw [flatI_length, HK2.out]) HCL6.out (flatI_one _ _ _ _) (by unfold maxLen; omega) (by omega) (by omega) ?_
                intro v' w7 hown' hgr hat7
                obtain ⟨a7, c7, rfl⟩ := owns_slice hown'
                obtain ⟨q6, zq6, gq6⟩ := HCW.out _ HB6.out
                have hS7 := hgr.cell q6 (fun e => HE1.out kb e.symm (.inr (.inl rfl)))
                have z67 := hgr.cell zq6 (fun e => HE1.out pb e.symm (.inl rfl))
                have g67 : w7.frozen? ⟨pb, 6, none⟩ = false := ((Only.grown hgr).frozen (p := ⟨pb, 6, none⟩) (World.block_lt_of_cell? _ _ zq6) (fun e => HE1.out pb e.symm (.inl rfl))).trans gq6
                have HST7 := Lib.hid (more_more HST.out HG.out HE1.out HE2.out HB6.out HK2.out hk40 HAT6.out HE6.out hown' hgr hat7 HS2.out)
                clear hown' hgr hat7 q6 zq6 gq6
                refine hK.out _ _ ?_ (fun hHeld => ?_)
                · exact hS7
                clear hK K
                try simp only [Act.put, List.getElem_toArray, List.getElem_cons_zero, List.getElem_cons_succ, List.setIfInBounds_toArray, List.set_cons_zero, List.set_cons_succ]
                refine wpAnyH_take (i := 15) (oi := _) (v := ?_) rfl (by kernel_rfl) (by kernel_rfl) (by kernel_rfl) (fun _ _ _ h => h) (Or.inl ⟨by rfl, ?_⟩) (by with_reducible assumption) ?_
                rotate_left
                · intro w hSw
                  (try dsimp only at hSw)
                  go_simp
                  all_goals (with_reducible rfl)
                try simp only [Act.put, List.getElem_toArray, List.getElem_cons_zero, List.getElem_cons_succ, List.setIfInBounds_toArray, List.set_cons_zero, List.set_cons_succ]
                refine wpAnyH_ready (rs := [16]) (by kernel_rfl) (by simp) ?_
                refine AllReadyH.cons (o := _) rfl (fun K hK => ?_) AllReadyH.nil
                go_simp
                refine hK.out _ _ ?_ (fun hHeld => ?_)
                · exact ((World.cell?_setCell_other _ _ _ _ (fun q => hne6 (congrArg Addr.block q))).trans hS7)
                clear hK K
                try simp only [Act.put, List.getElem_toArray, List.getElem_cons_zero, List.getElem_cons_succ, List.setIfInBounds_toArray, List.set_cons_zero, List.set_cons_succ]
                refine wpAnyH_done (by kernel_rfl) ?_ _
                refine NoPanic.normal ?_
                clear hS7 z67 g67 HG6
                go_wp2
                go_roundw
                case rel => exact ⟨i + 1, _, sn, sa, sk, sc, a7, n' + k2, c7, by go_num, by omega, rfl, HST7.out⟩
                case measure => simp [intOf]; omega
          case pos =>
            have hsp2 : (ys.toList == [106, 97, 98, 98, 101, 114, 58, 99, 108, 105, 101, 110, 116]) = true := by rw [beq_iff_eq]; exact hsp
            have HIX := Lib.hid (hasIx_bd sn yn)
            have KH := Lib.hid (l6Has_any (.slice sa sk sc) sn yn wr (RowS.of_owns HST.out.seen))
            have KP := Lib.hid (fun nd => l7Part_any (some ⟨b, o, none⟩) n c kk pb l ⟨xk, xf, xt, xs, xu, xp, xm⟩ a' n' c' wR (wr.drewN nd) (by omega) hkn (fun j hj => by have := text_le HC.out (i := j) (by have := HLEN.out; omega); omega) (by have := txtT_le HC.out (i := kk) (by have := HLEN.out; omega); unfold maxLen; omega) (HIT.out.below HRB.out) (HST.out.mt.keep (below_drewN (Below.refl _ _) nd)))
            have HPS := Lib.hid (fun q2 (hq2 : partP l kk ⟨xk, xf, xt, xs, xu, xp, xm⟩ = some q2) => partP_short HC.out hkl HST.out.short hq2)
            have HH1 : Hid (0 ≤ hasIx sn yn → rr = none) := Lib.hid (fun h0 => HSTOP.out (by rw [HK1.out, if_neg (by rw [hne]; simp), if_neg (by simp [hsp]), if_pos h0]))
            have HH2 : Hid (¬ 0 ≤ hasIx sn yn → partP l kk ⟨xk, xf, xt, xs, xu, xp, xm⟩ = none → rr = none) := Lib.hid (fun h0 h1 => HSTOP.out (by rw [HK1.out, if_neg (by rw [hne]; simp), if_neg (by simp [hsp]), if_neg h0, h1]))
            have HH3 : Hid (¬ 0 ≤ hasIx sn yn → ∀ q2, partP l kk ⟨xk, xf, xt, xs, xu, xp, xm⟩ = some q2 → rr = kidsF l (kidsL l 0) (m - (i + 1)) (i + 1) (sn ++ [yn], q2)) := Lib.hid (fun h0 q2 h1 => HSTEP.out _ (by rw [HK1.out, if_neg (by rw [hne]; simp), if_neg (by simp [hsp]), if_neg h0, h1]))
            unfold PartRes at KP
            generalize hasIx sn yn = ix at KH HH1 HH2 HH3 HIX
            clear HSTEP HSTOP HK1 hsp
            go_wp2_with fail
            refine KH.out.mono ?_
            rintro e w4 ⟨rfl, nd, rfl⟩
            have KP := Lib.hid (KP.out nd)
            have HST4 := Lib.hid (HST.out.drewN nd)
            clear KH e2 d0
            have d0 : (wr.drewN nd).cell? ⟨kb, i, none⟩ = some (.int .i64 (kk : Int)) := HKC.out nd
            generalize wr.drewN nd = w4 at KP HST4 d0 ⊢
            by_cases h0 : 0 ≤ ix
            · have HRN := Lib.hid (HH1.out h0)
              clear KP HH1 HH2 HH3
              have hbx := HBX.out.below (by have := HRZ.out; omega) HST4.out.mt.below
              obtain ⟨v0, b0⟩ := hbx.c 0 (by omega)
              obtain ⟨v1, b1⟩ := hbx.c 1 (by omega)
              obtain ⟨v2, b2⟩ := hbx.c 2 (by omega)
              obtain ⟨v3, b3⟩ := hbx.c 3 (by omega)
              obtain ⟨v4, b4⟩ := hbx.c 4 (by omega)
              obtain ⟨v5, b5⟩ := hbx.c 5 (by omega)
              obtain ⟨v6, b6⟩ := hbx.c 6 (by omega)
              have f0 := hbx.f 0
              have f1 := hbx.f 1
              have f2 := hbx.f 2
              have f3 := hbx.f 3
              have f4 := hbx.f 4
              have f5 := hbx.f 5
              have f6 := hbx.f 6
              have z0 := HST4.out.mt.is.c0
              have z1 := HST4.out.mt.is.c1
              have z2 := HST4.out.mt.is.c2
              have z3 := HST4.out.mt.is.c3
              have z4 := HST4.out.mt.is.c4
              have z5 := HST4.out.mt.is.c5
              have z6 := HST4.out.mt.is.c6
              dsimp only at z0 z1 z2 z3 z4 z5 z6
              go_wp2
              refine bodyPost_ret (v := .tuple #[.agg #[.int .i64 xk, .string xf, .string xt, .int .i64 xs, .string xu, .int .i64 xp, .slice a' n' c'], .bool false]) (by simp [results, Tryz.results45, go_sem, b0, b1, b2, b3, b4, b5, b6]) rfl ⟨false, ⟨xk, xf, xt, xs, xu, xp, xm⟩, a', n', c', rfl, HST4.out.more.seven w.heap.size (by have := HRZ.out; omega) (by have := HRZ.out; omega) _ _ _ _ _ _ _, ((((((((HRB.out.trans (HST4.out.mt.below.mono HRB.out.size)).setCell (p := ⟨w.heap.size, 0, none⟩) (Nat.le_refl _) _).setCell (p := ⟨w.heap.size, 1, none⟩) (Nat.le_refl _) _).setCell (p := ⟨w.heap.size, 2, none⟩) (Nat.le_refl _) _).setCell (p := ⟨w.heap.size, 3, none⟩) (Nat.le_refl _) _).setCell (p := ⟨w.heap.size, 4, none⟩) (Nat.le_refl _) _).setCell (p := ⟨w.heap.size, 5, none⟩) (Nat.le_refl _) _).setCell (p := ⟨w.heap.size, 6, none⟩) (Nat.le_refl _) _), (by simp), (fun _ => HRN.out)⟩
            · have HR2 := Lib.hid (HH2.out (by omega))
              have HR3 := Lib.hid (HH3.out (by omega))
              clear HH1 HH2 HH3
              go_wp2_with fail
              refine KP.out.mono ?_
              rintro e w5 ⟨bb, q5, rfl, hm5, ho5, hy5, hn5⟩
              have HST5 := Lib.hid (HST4.out.part ho5 hm5)
              cases bb
              · have HRN := Lib.hid (HR2.out (hn5 rfl))
                obtain ⟨yk, yf, yt2, ys2, yu, yp, ym⟩ := q5
                clear KP HR2 HR3 hy5 hn5 ho5
                have hbx := HBX.out.below (by have := HRZ.out; omega) hm5.below
                obtain ⟨v0, b0⟩ := hbx.c 0 (by omega)
                obtain ⟨v1, b1⟩ := hbx.c 1 (by omega)
                obtain ⟨v2, b2⟩ := hbx.c 2 (by omega)
                obtain ⟨v3, b3⟩ := hbx.c 3 (by omega)
                obtain ⟨v4, b4⟩ := hbx.c 4 (by omega)
                obtain ⟨v5, b5⟩ := hbx.c 5 (by omega)
                obtain ⟨v6, b6⟩ := hbx.c 6 (by omega)
                have f0 := hbx.f 0
                have f1 := hbx.f 1
                have f2 := hbx.f 2
                have f3 := hbx.f 3
                have f4 := hbx.f 4
                have f5 := hbx.f 5
                have f6 := hbx.f 6
                have z0 := hm5.is.c0
                have z1 := hm5.is.c1
                have z2 := hm5.is.c2
                have z3 := hm5.is.c3
                have z4 := hm5.is.c4
                have z5 := hm5.is.c5
                have z6 := hm5.is.c6
                dsimp only at z0 z1 z2 z3 z4 z5 z6
                go_wp2
                refine bodyPost_ret (v := .tuple #[.agg #[.int .i64 yk, .string yf, .string yt2, .int .i64 ys2, .string yu, .int .i64 yp, .slice a' n' c'], .bool false]) (by simp [results, Tryz.results45, go_sem, b0, b1, b2, b3, b4, b5, b6]) rfl ⟨false, ⟨yk, yf, yt2, ys2, yu, yp, xm⟩, a', n', c', rfl, HST5.out.seven w.heap.size (by have := HRZ.out; omega) (by have := HRZ.out; omega) _ _ _ _ _ _ _, ((((((((HRB.out.trans (hm5.below.mono HRB.out.size)).setCell (p := ⟨w.heap.size, 0, none⟩) (Nat.le_refl _) _).setCell (p := ⟨w.heap.size, 1, none⟩) (Nat.le_refl _) _).setCell (p := ⟨w.heap.size, 2, none⟩) (Nat.le_refl _) _).setCell (p := ⟨w.heap.size, 3, none⟩) (Nat.le_refl _) _).setCell (p := ⟨w.heap.size, 4, none⟩) (Nat.le_refl _) _).setCell (p := ⟨w.heap.size, 5, none⟩) (Nat.le_refl _) _).setCell (p := ⟨w.heap.size, 6, none⟩) (Nat.le_refl _) _), (by simp), (fun _ => HRN.out)⟩
              · have hq5 := hy5 rfl
                obtain ⟨hs5, hm5b⟩ := HPS.out q5 hq5
                have HRR := Lib.hid (HR3.out q5 hq5)
                have e3' := ((HATR.out kk hkn).below hm5.below).c3
                rw [HYY.out] at e3'
                dsimp only at e3'
                have HSK : Hid (sk = sn.length) := Lib.hid (owns_n HST.out.seen)
                have HSEE : Hid (w5.ownsRow wR.heap.size 9 1 (.slice sa sk sc) sk (sn.map Value.string)) := Lib.hid (by
                  have := rowOnlyP HST4.out.seen ho5 (fun g hg he => HST4.out.sp (by rw [hg, he]))
                  rw [← HSK.out] at this
                  exact this)
                have HKID : Hid (w5.ownsRow wR.heap.size 2 1 (.slice (some ⟨kb, 0, none⟩) m kc) m ((kidsL l 0).map (Value.int .i64))) := Lib.hid (rowOnlyP HST4.out.kids ho5 (fun g hg he => HST4.out.kp (by rw [hg, he])))
                have HM5 := Lib.hid hm5
                have HMB := Lib.hid hm5b
                have HS5 := Lib.hid hs5
                have hsk40 : sk ≤ 40 := by have := HST.out.sfew; have := HSK.out; omega
                have hR5 : wR.heap.size ≤ w5.heap.size := hm5.below.size
                clear KP HR2 HR3 hy5 hn5 hq5 ho5 hm5 hs5 hm5b d0
                go_wp2_with (at_builtin; refine wpList_append_own_at _ rfl _ _ 66 rfl wR.heap.size 9 i0 (.string ByteArray.empty) 1 16 Tryz.underlying66 hi0 hz0 hz1 hz2 rfl (by decide) _ sk _ rfl (HSEE.out.alloc _) ⟨w5.heap.size, 0, none⟩ 1 1 [.string yn] rfl rfl (fun j u hj => strCells1 w5 yn j u hj) (by simp [Value.oneCell']) (by unfold maxLen; omega) (by omega) (by simp; omega) ?_)
                intro v' w6 hown hgr _ hat
                obtain ⟨a6, c6, rfl⟩ := owns_slice hown
                have HST6 : Hid (PresSt wR w6 l pb m (.slice (some ⟨kb, 0, none⟩) m kc) (kidsL l 0) (i + 1) q5 (sn ++ [yn]) (.slice a6 (sk + 1) c6) a' n' c' rr) := Lib.hid (seen_more HST4.out HM5.out HST5.out HKID.out HSEE.out HSK.out HS5.out HMB.out HRR.out hown hgr hat)
                clear hown hgr hat e3'
                go_wp2
                go_roundw
                case rel => exact ⟨i + 1, q5, sn ++ [yn], a6, sk + 1, c6, a', n', c', by go_num, by omega, rfl, HST6.out⟩
                case measure => simp [intOf]; omega
        · have HRN := Lib.hid (HSTOP.out (by rw [HK1.out, if_pos hne]))
          clear HSTEP HSTOP HK1
          have hbx := HBX.out.below (by have := HRZ.out; omega) HST.out.mt.below
          obtain ⟨v0, b0⟩ := hbx.c 0 (by omega)
          obtain ⟨v1, b1⟩ := hbx.c 1 (by omega)
          obtain ⟨v2, b2⟩ := hbx.c 2 (by omega)
          obtain ⟨v3, b3⟩ := hbx.c 3 (by omega)
          obtain ⟨v4, b4⟩ := hbx.c 4 (by omega)
          obtain ⟨v5, b5⟩ := hbx.c 5 (by omega)
          obtain ⟨v6, b6⟩ := hbx.c 6 (by omega)
          have f0 := hbx.f 0
          have f1 := hbx.f 1
          have f2 := hbx.f 2
          have f3 := hbx.f 3
          have f4 := hbx.f 4
          have f5 := hbx.f 5
          have f6 := hbx.f 6
          have z0 := HST.out.mt.is.c0
          have z1 := HST.out.mt.is.c1
          have z2 := HST.out.mt.is.c2
          have z3 := HST.out.mt.is.c3
          have z4 := HST.out.mt.is.c4
          have z5 := HST.out.mt.is.c5
          have z6 := HST.out.mt.is.c6
          dsimp only at z0 z1 z2 z3 z4 z5 z6
          go_wp2
          refine bodyPost_ret (v := .tuple #[.agg #[.int .i64 xk, .string xf, .string xt, .int .i64 xs, .string xu, .int .i64 xp, .slice a' n' c'], .bool false]) (by simp [results, Tryz.results45, go_sem, b0, b1, b2, b3, b4, b5, b6]) rfl ⟨false, ⟨xk, xf, xt, xs, xu, xp, xm⟩, a', n', c', rfl, HST.out.more.seven w.heap.size (by have := HRZ.out; omega) (by have := HRZ.out; omega) _ _ _ _ _ _ _, ((((((((HRB.out.trans (HST.out.mt.below.mono HRB.out.size)).setCell (p := ⟨w.heap.size, 0, none⟩) (Nat.le_refl _) _).setCell (p := ⟨w.heap.size, 1, none⟩) (Nat.le_refl _) _).setCell (p := ⟨w.heap.size, 2, none⟩) (Nat.le_refl _) _).setCell (p := ⟨w.heap.size, 3, none⟩) (Nat.le_refl _) _).setCell (p := ⟨w.heap.size, 4, none⟩) (Nat.le_refl _) _).setCell (p := ⟨w.heap.size, 5, none⟩) (Nat.le_refl _) _).setCell (p := ⟨w.heap.size, 6, none⟩) (Nat.le_refl _) _), (by simp), (fun _ => HRN.out)⟩
      · obtain rfl : i = m := by omega
        have HRS : Hid (rr = some ⟨xk, xf, xt, xs, xu, xp, xm⟩) := Lib.hid (by rw [hst.res, Nat.sub_self]; rfl)
        clear hst
        have hbx := HBX.out.below (by have := HRZ.out; omega) HST.out.mt.below
        obtain ⟨v0, b0⟩ := hbx.c 0 (by omega)
        obtain ⟨v1, b1⟩ := hbx.c 1 (by omega)
        obtain ⟨v2, b2⟩ := hbx.c 2 (by omega)
        obtain ⟨v3, b3⟩ := hbx.c 3 (by omega)
        obtain ⟨v4, b4⟩ := hbx.c 4 (by omega)
        obtain ⟨v5, b5⟩ := hbx.c 5 (by omega)
        obtain ⟨v6, b6⟩ := hbx.c 6 (by omega)
        have f0 := hbx.f 0
        have f1 := hbx.f 1
        have f2 := hbx.f 2
        have f3 := hbx.f 3
        have f4 := hbx.f 4
        have f5 := hbx.f 5
        have f6 := hbx.f 6
        have z0 := HST.out.mt.is.c0
        have z1 := HST.out.mt.is.c1
        have z2 := HST.out.mt.is.c2
        have z3 := HST.out.mt.is.c3
        have z4 := HST.out.mt.is.c4
        have z5 := HST.out.mt.is.c5
        have z6 := HST.out.mt.is.c6
        dsimp only at z0 z1 z2 z3 z4 z5 z6
        go_wp2
        refine bodyPost_ret (v := .tuple #[.agg #[.int .i64 xk, .string xf, .string xt, .int .i64 xs, .string xu, .int .i64 xp, .slice a' n' c'], .bool true]) (by simp [results, Tryz.results45, go_sem, b0, b1, b2, b3, b4, b5, b6]) rfl ⟨true, ⟨xk, xf, xt, xs, xu, xp, xm⟩, a', n', c', rfl, HST.out.more.seven w.heap.size (by have := HRZ.out; omega) (by have := HRZ.out; omega) _ _ _ _ _ _ _, ((((((((HRB.out.trans (HST.out.mt.below.mono HRB.out.size)).setCell (p := ⟨w.heap.size, 0, none⟩) (Nat.le_refl _) _).setCell (p := ⟨w.heap.size, 1, none⟩) (Nat.le_refl _) _).setCell (p := ⟨w.heap.size, 2, none⟩) (Nat.le_refl _) _).setCell (p := ⟨w.heap.size, 3, none⟩) (Nat.le_refl _) _).setCell (p := ⟨w.heap.size, 4, none⟩) (Nat.le_refl _) _).setCell (p := ⟨w.heap.size, 5, none⟩) (Nat.le_refl _) _).setCell (p := ⟨w.heap.size, 6, none⟩) (Nat.le_refl _) _), (fun _ => HRS.out), (by simp)⟩
end Go.Proofs.YtjkmgpomcnplnaaGreatDoor
