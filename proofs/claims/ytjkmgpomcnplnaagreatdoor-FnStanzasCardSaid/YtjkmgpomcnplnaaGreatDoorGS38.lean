/- What has been read of the root's kids, and where it lies. -/
import Derived.Test.YtjkmgpomcnplnaaGreatDoorGS36
import Derived.Test.YtjkmgpomcnplnaaGreatDoorGS37
import Derived.Test.YtjkmgpomcnplnaaGreatDoorGS28
import Derived.Test.YtjkmgpomcnplnaaGreatDoorGS29
namespace Go.Proofs.YtjkmgpomcnplnaaGreatDoor
open Go.ChangeShapes Go.WideShapes Go.ChangeAt Go.RowKit
set_option linter.unusedSimpArgs false
set_option linter.unusedVariables false
theorem OwnIts.ok {w : World} {lo hi b o n c : Nat} {l : List It} (h : OwnIts w lo hi (some ⟨b, o, none⟩) n c l) : ∀ i, i < n → ItOk w b (o + i * 5) (l.getD i dIt) := by
  intro i hi2
  have hits := h.its
  obtain ⟨b1, o1, e1, hat⟩ := hits.row.resolve_left (by omega)
  cases e1
  rcases h.row with e | ⟨b2, A, N, C, ha, _, _, _, hcs, _⟩
  · omega
  · simp only [Option.some.injEq, Addr.mk.injEq] at ha
    obtain ⟨rfl, rfl, _⟩ := ha
    have hc := (hcs i hi2).1
    have ho := (hcs i hi2).2
    have h4 := hc.c4
    rw [← Nat.zero_add (i * 5)] at h4
    exact ⟨hat i hi2, A i, N i, C i, h4, hc.nil, ho.ats⟩
structure InSt (w0 W0 wr : World) (l : List It) (pb m j x : Nat) (q : Pr) (sn : List ByteArray) (D : DataW Unit) (a : Option Addr) (n c : Nat) (r : Option Pr) : Prop where
  mt : PrMut w0 wr pb q a n c
  may : MayAt w0 wr pb m D (leftT partTs sn) partG
  more : ∃ A N C, GrowIts wr W0.heap.size (.slice a n c) n q.more A N C
  on : Only (fun i => i = pb ∨ i = m) W0 wr
  at_ : LaidSt l 0 j x
  few : n + 1 ≤ x
  res : r = kidsF l (kidsL l 0) ((kidsUp l l.length 0).length - j) j (sn, q)
theorem InSt.below {w0 W0 wr w' : World} {l : List It} {pb m j x : Nat} {q : Pr} {sn : List ByteArray} {D : DataW Unit} {a : Option Addr} {n c : Nat} {r : Option Pr} (h : InSt w0 W0 wr l pb m j x q sn D a n c r) (hb : Below wr.heap.size wr w') : InSt w0 W0 w' l pb m j x q sn D a n c r := by
  obtain ⟨A, N, C, hg⟩ := h.more
  exact ⟨h.mt.keep hb, h.may.below hb, ⟨A, N, C, hg.below hb⟩, h.on.trans (Only.below hb), h.at_, h.few, h.res⟩
theorem kid_same {l : List It} (hR : Rises l) {j x : Nat} (hj : j < (kidsUp l l.length 0).length) (hx : (kidsUp l l.length 0).getD j 0 = x) : ((kidsL l 0).getD j 0).toNat = x := by
  rw [← kids_same hR hR.some]
  rw [List.getD_eq_getElem?_getD, List.getElem?_eq_getElem hj] at hx
  rw [List.getD_eq_getElem?_getD, List.getElem?_map, List.getElem?_eq_getElem hj]
  simp at hx ⊢
  exact hx
theorem InSt.step {w0 W0 wr : World} {l : List It} {pb m j x : Nat} {q : Pr} {sn : List ByteArray} {D : DataW Unit} {a : Option Addr} {n c : Nat} {r : Option Pr} (h : InSt w0 W0 wr l pb m j x q sn D a n c r) (hR : Rises l) (hj : j < (kidsUp l l.length 0).length) (hx : (kidsUp l l.length 0).getD j 0 = x) {t : List ByteArray × Pr} (ht : kidOne l x (sn, q) = some t) :
    r = kidsF l (kidsL l 0) ((kidsUp l l.length 0).length - (j + 1)) (j + 1) t := by
  rw [h.res, kids_more (by omega) (by rw [kid_same hR hj hx]; exact ht), show (kidsUp l l.length 0).length - j - 1 = (kidsUp l l.length 0).length - (j + 1) by omega]
theorem InSt.stop {w0 W0 wr : World} {l : List It} {pb m j x : Nat} {q : Pr} {sn : List ByteArray} {D : DataW Unit} {a : Option Addr} {n c : Nat} {r : Option Pr} (h : InSt w0 W0 wr l pb m j x q sn D a n c r) (hR : Rises l) (hj : j < (kidsUp l l.length 0).length) (hx : (kidsUp l l.length 0).getD j 0 = x) (ht : kidOne l x (sn, q) = none) : r = none := by
  rw [h.res, kids_none (by omega) (by rw [kid_same hR hj hx]; exact ht)]
theorem InSt.part {w0 W0 wr w2 : World} {l : List It} {pb m j x x' : Nat} {q q2 : Pr} {sn sn2 : List ByteArray} {D D2 : DataW Unit} {a : Option Addr} {n c : Nat} {r : Option Pr} (h : InSt w0 W0 wr l pb m j x q sn D a n c r) (hpb : pb < W0.heap.size) (hmb : m < W0.heap.size)
    (hm2 : PrMut w0 w2 pb q2 a n c) (hd2 : MayAt w0 w2 pb m D2 (leftT partTs sn2) partG) (ho : Only (fun i => i = pb ∨ i = m) wr w2) (hmo : q2.more = q.more) (hat : LaidSt l 0 (j + 1) x') (hx : x ≤ x')
    (hr : r = kidsF l (kidsL l 0) ((kidsUp l l.length 0).length - (j + 1)) (j + 1) (sn2, q2)) : InSt w0 W0 w2 l pb m (j + 1) x' q2 sn2 D2 a n c r := by
  obtain ⟨A, N, C, hg⟩ := h.more
  obtain ⟨k1, k2⟩ := hg.lts
  refine ⟨hm2, hd2, ⟨A, N, C, ?_⟩, h.on.trans ho, hat, by have := h.few; omega, hr⟩
  rw [hmo]
  exact hg.only2 ho (fun g hg he => by have := k1 g hg; omega) (fun i hi y hy hn he => by have := k2 i hi y hy hn; omega)
theorem InSt.moved {w0 W0 wr w8 : World} {l l2 : List It} {pb m j x x' : Nat} {q : Pr} {sn : List ByteArray} {D : DataW Unit} {a a8 : Option Addr} {n c n8 c8 : Nat} {r : Option Pr} {A8 : Nat → Option Addr} {N8 C8 : Nat → Nat} (h : InSt w0 W0 wr l pb m j x q sn D a n c r) (hpb : pb < W0.heap.size) (hmb : m < W0.heap.size) (hw0 : w0.heap.size ≤ W0.heap.size)
    (hg8 : GrowIts w8 W0.heap.size (.slice a8 n8 c8) n8 (q.more ++ l2) A8 N8 C8) (hgr : wr.grownBy w8 (Value.slice a n c).ownBlock) (hat : LaidSt l 0 (j + 1) x') (hx : x + l2.length ≤ x')
    (hr : r = kidsF l (kidsL l 0) ((kidsUp l l.length 0).length - (j + 1)) (j + 1) (sn, { q with more := q.more ++ l2 })) :
    InSt w0 W0 (w8.setCell ⟨pb, 6, none⟩ (.slice a8 n8 c8)) l pb m (j + 1) x' { q with more := q.more ++ l2 } sn D a8 n8 c8 r := by
  obtain ⟨A, N, C, hg⟩ := h.more
  obtain ⟨k1, k2⟩ := hg.lts
  obtain ⟨k3, k4⟩ := hg8.lts
  have ho := Only.grown hgr
  have hn : n8 = n + l2.length := by
    have h1 := hg8.len
    have h2 := hg.len
    rw [List.length_append] at h1
    omega
  have hmt := h.mt.only ho (fun e => by have := k1 pb e.symm; omega) (fun i hi => by have := k1 i hi.symm; omega)
  have hs := Only.set (P := fun i => i = pb) w8 ⟨pb, 6, none⟩ (.slice a8 n8 c8) rfl
  refine ⟨hmt.setMore _ _ _ _, ?_, ⟨A8, N8, C8, ?_⟩, ?_, hat, by have := h.few; omega, hr⟩
  · exact (h.may.only ho (fun e => by have := k1 m e.symm; omega)).only hs (fun e => h.may.ne e)
  · exact hg8.only2 hs (fun g hg he => by have := k3 g hg; omega) (fun i hi y hy hn he => by have := k4 i hi y hy hn; omega)
  · exact (only_behind h.on ho (fun i hi => by have := k1 i hi.symm; omega)).trans (hs.mono (fun i hi => .inl hi))
theorem in_small {l : List It} (hc : treeCode l = 0) (i : Nat) : (l.getD i dIt).text.size ≤ 1000 := by
  rcases Nat.lt_or_ge i l.length with h | h
  · have := text_le hc h
    omega
  · rw [List.getD_eq_getElem?_getD, List.getElem?_eq_none h]
    decide
end Go.Proofs.YtjkmgpomcnplnaaGreatDoor
