/- spec.TreeOf. -/
import Derived.Test.YtjkmgpomcnplnaaGreatDoorGS18
import Derived.Test.YtjkmgpomcnplnaaGreatDoorGS0
import Derived.Sort.Walk0
import Derived.Test.YtjkmgpomcnplnaaGreatDoorGS29
import Derived.Maps.OwnSet
import Derived.StringKeys
import Derived.Test.YtjkmgpomcnplnaaGreatDoorGS8
import Derived.Test.YtjkmgpomcnplnaaGreatDoorGS24
import Derived.Test.YtjkmgpomcnplnaaGreatDoorGS17
import Derived.Deep.RegionHeld3
import Derived.Deep.DeepCutAuto
namespace Go.Proofs.YtjkmgpomcnplnaaGreatDoor
open Go.ChangeShapes Go.WideShapes Go.ChangeAt Go.RowKit
set_option linter.unusedSimpArgs false
set_option linter.unusedVariables false
set_option maxRecDepth 100000 in
set_option maxHeartbeats 3200000 in
theorem specTreeOf_any (p : Pr) (a : Option Addr) (n c lo hi : Nat) (w : World) (hsm : SmallPr p) (h : OwnIts w lo hi a n c p.more) :
    Calls Tryz.prog 14 #[.agg #[.int .i64 p.kind, .string p.sender, .string p.goal, .int .i64 p.shown, .string p.status, .int .i64 p.prio, .slice a n c]] w (TreeOwn w (presCode p) (treeT p)) := by
  have K0 := Lib.hid (fun W (hb : Below w.heap.size w W) => specPresenceFault_any p a n c W hsm (h.its.below hb))
  have P0 := Lib.hid ((PrAt.new w 26 p a n c).below (below1 _ (.cells #[.int .i64 0, .slice none 0 0] 29)))
  have KT := Lib.hid (fun hg W (hb : Below w.heap.size w W) (hP : PrAt W w.heap.size p a n c) => specTree_any w.heap.size p a n c lo hi W hP hg hsm (h.below hb))
  have HG := Lib.hid (fun h => goodPr (p := p) h)
  unfold treeT TreeOwn
  unfold ItsOwn at KT
  clear hsm h
  by_cases hcd : presCode p = 0
  · rw [if_pos hcd, hcd]
    rw [hcd] at K0
    have KT2 := Lib.hid (KT.out (HG.out hcd))
    clear KT HG hcd
    generalize treeL p = TL at KT2 ⊢
    obtain ⟨pk, pf, pt, ps, pu, pp, pm⟩ := p
    dsimp only at K0 P0 KT2 ⊢
    have d0 := P0.out.c0
    have d1 := P0.out.c1
    have d2 := P0.out.c2
    have d3 := P0.out.c3
    have d4 := P0.out.c4
    have d5 := P0.out.c5
    have d6 := P0.out.c6
    go_enter Tryz.func14, Tryz.ntmps14
    go_wp2_with fail
    refine (K0.out _ (below2 _ _ _)).mono ?_
    rintro e w1 ⟨rfl, hb⟩
    have B1 := Lib.hid hb
    have P1 := Lib.hid (P0.out.below hb)
    have BW := Lib.hid (below_then (below2 w _ _) hb)
    clear hb d0 d1 d2 d3 d4 d5 d6 P0
    go_wp2_with fail
    refine (KT2.out _ BW.out P1.out).mono ?_
    rintro e w2 ⟨a2, n2, c2, rfl, ho, hb2⟩
    have hb := below_then B1.out hb2
    obtain ⟨hc, hf⟩ := bcell hb
    have HB := Lib.hid hb
    have HO := Lib.hid ho
    have hz := hb.size
    simp at hz
    have hz1 := B1.out.size
    simp at hz1
    clear hb hb2 ho
    go_wp2
    refine bodyPost_ret (v := .agg #[.int .i64 0, .slice a2 n2 c2]) (by simp [results, Tryz.results14, go_sem, hc]) rfl ⟨_, _, _, rfl, ?_, ?_⟩
    · have st : ∀ (W : World) (p : Addr) (v : Value), p.block = w.heap.size + 1 → OwnIts W w1.heap.size w2.heap.size a2 n2 c2 TL → OwnIts (W.setCell p v) w1.heap.size w2.heap.size a2 n2 c2 TL := fun W p v hp h =>
        h.only (Only.set (P := fun i => i = w.heap.size + 1) W p v hp) fun i h1 h2 hq => by omega
      exact OwnIts.mono (st _ _ _ rfl (st _ _ _ rfl HO.out)) (by omega) (by simp)
    · exact (((below_then (below2 w _ _) HB.out).setCell (by simp) _).setCell (by simp) _)
  · rw [if_neg hcd]
    generalize presCode p = cd at K0 hcd ⊢
    have q1 : (cd != 0) = true := by rw [bne_iff_ne]; exact hcd
    clear hcd KT HG
    obtain ⟨pk, pf, pt, ps, pu, pp, pm⟩ := p
    dsimp only at K0 P0 ⊢
    have d0 := P0.out.c0
    have d1 := P0.out.c1
    have d2 := P0.out.c2
    have d3 := P0.out.c3
    have d4 := P0.out.c4
    have d5 := P0.out.c5
    have d6 := P0.out.c6
    go_enter Tryz.func14, Tryz.ntmps14
    go_wp2_with fail
    refine (K0.out _ (below2 _ _ _)).mono ?_
    rintro e w1 ⟨rfl, hb⟩
    obtain ⟨hc, hf⟩ := bcell hb
    have HB := Lib.hid hb
    have hz := hb.size
    simp at hz
    clear hb d0 d1 d2 d3 d4 d5 d6
    go_wp2
    refine bodyPost_ret (v := .agg #[.int .i64 cd, .slice none 0 0]) (by simp [results, Tryz.results14, go_sem, hc]) rfl ⟨_, _, _, rfl, ⟨rfl, by omega, fun i hi => by omega, .inl rfl⟩, ?_⟩
    exact (((below_then (below2 w _ _) HB.out).setCell (by simp) _).setCell (by simp) _)
end Go.Proofs.YtjkmgpomcnplnaaGreatDoor
namespace Go.Proofs.YtjkmgpomcnplnaaGreatDoor
set_option linter.unusedVariables false
def leT (a b : ByteArray) : Prop := Op.bytesLess b.toList a.toList = false
theorem leT_iff {a b : ByteArray} : leT a b ↔ a.data.toList ≤ b.data.toList := by
  unfold leT
  rw [bytesLess_eq, Lib.toList_data, Lib.toList_data, decide_eq_false_iff_not]
  exact List.not_lt
theorem leT_refl (a : ByteArray) : leT a a := leT_iff.2 (List.le_refl _)
theorem leT_trans {a b c : ByteArray} (h : leT a b) (k : leT b c) : leT a c := leT_iff.2 (List.le_trans (leT_iff.1 h) (leT_iff.1 k))
theorem leT_total (a b : ByteArray) : leT a b ∨ leT b a := (List.le_total a.data.toList b.data.toList).imp leT_iff.2 leT_iff.2
theorem leT_of_less {a b : ByteArray} (h : Op.bytesLess a.toList b.toList = true) : leT a b := by
  rcases leT_total a b with k | k
  · exact k
  · unfold leT at k
    rw [h] at k
    cases k
def Sorts (xs ts : List ByteArray) : Prop := ts.Perm xs ∧ ts.Pairwise leT
def insT (x : ByteArray) : List ByteArray → List ByteArray
  | [] => [x]
  | y :: l => if Op.bytesLess x.toList y.toList = true then x :: y :: l else y :: insT x l
def sortT : List ByteArray → List ByteArray
  | [] => []
  | x :: l => insT x (sortT l)
abbrev ix (l : List ByteArray) (i : Nat) : ByteArray := l.getD i ByteArray.empty
def UpAt (l : List ByteArray) (p : Nat) : Prop :=
  (∀ i, 0 < i → i < l.length → i ≠ p → leT (ix l ((i - 1) / 2)) (ix l i)) ∧
  (∀ i, 0 < i → i < l.length → (i - 1) / 2 = p → 0 < p → leT (ix l ((p - 1) / 2)) (ix l i))
def DownAt (l : List ByteArray) (p : Nat) : Prop :=
  (∀ i, 0 < i → i < l.length → (i - 1) / 2 ≠ p → leT (ix l ((i - 1) / 2)) (ix l i)) ∧
  (∀ i, 0 < i → i < l.length → (i - 1) / 2 = p → 0 < p → leT (ix l ((p - 1) / 2)) (ix l i))
def IsHeap (l : List ByteArray) : Prop := ∀ i, 0 < i → i < l.length → leT (ix l ((i - 1) / 2)) (ix l i)
def sw (l : List ByteArray) (a b : Nat) : List ByteArray := (l.set a (ix l b)).set b (ix l a)
def tk (l : List ByteArray) : List ByteArray := (l.set 0 (ix l (l.length - 1))).take (l.length - 1)
def linesT (ts : List ByteArray) : List UInt8 := ts.flatMap fun t => t.data.toList ++ [60]
open Classical in
noncomputable def leftT (ts sn : List ByteArray) : List ByteArray := ts.filter fun t => decide (t ∉ sn)
theorem leftT_mem {ts sn : List ByteArray} {t : ByteArray} : t ∈ leftT ts sn ↔ t ∈ ts ∧ t ∉ sn := by
  unfold leftT
  rw [List.mem_filter]
  simp
theorem leftT_nil (ts : List ByteArray) : leftT ts [] = ts := by
  unfold leftT
  rw [List.filter_eq_self]
  intro a _
  simp
open Classical in
theorem leftT_more (ts sn : List ByteArray) (x : ByteArray) : leftT ts (sn ++ [x]) = (leftT ts sn).filter fun t => decide (t ≠ x) := by
  unfold leftT
  rw [List.filter_filter]
  congr 1
  funext t
  by_cases h1 : t ∈ sn <;> by_cases h2 : t = x <;> simp [h1, h2]
theorem text_same {a b : ByteArray} (h : a.toList = b.toList) : a = b := by
  rw [Lib.toList_data, Lib.toList_data] at h
  cases a; cases b
  simp only [ByteArray.mk.injEq] at h ⊢
  exact Array.toList_inj.1 h
def rootTs : List ByteArray := [fromT, toT, typeT]
def partTs : List ByteArray := [showNm, statusNm, prioNm]
theorem rootOne_out {x : At} {p : Pr} (h : x.name ∉ rootTs) : rootOne x p = none := by
  unfold rootTs at h
  simp only [List.mem_cons, List.not_mem_nil, or_false, not_or] at h
  unfold rootOne
  rw [if_neg (fun e => h.1 (text_same e)), if_neg (fun e => h.2.1 (text_same e)), if_neg (fun e => h.2.2 (text_same e))]
theorem partP_out {l : List It} {i : Nat} {p : Pr} (h : (l.getD i dIt).name ∉ partTs) : partP l i p = none := by
  unfold partTs at h
  simp only [List.mem_cons, List.not_mem_nil, or_false, not_or] at h
  unfold partP
  cases textL l i with
  | none => rfl
  | some t =>
    dsimp only
    split
    · rfl
    · rw [if_neg (fun e => h.1 (text_same e)), if_neg (fun e => h.2.1 (text_same e)), if_neg (fun e => h.2.2 (text_same e))]
theorem names_apart {l : List At} (h : rises l = true) : ∀ {k j : Nat}, j < k → k < l.length → leT (l.getD j dAt).name (l.getD k dAt).name ∧ (l.getD j dAt).name ≠ (l.getD k dAt).name := by
  have hstep : ∀ i, 1 ≤ i → i < l.length → Op.bytesLess (l.getD (i - 1) dAt).name.toList (l.getD i dAt).name.toList = true := by
    intro i h1 hi
    unfold rises at h
    rw [List.all_eq_true] at h
    have := h i (List.mem_range.2 hi)
    have h0 : (i == 0) = false := by rw [beq_eq_false_iff_ne]; omega
    rw [h0, Bool.false_or] at this
    exact this
  have hne : ∀ {a b : ByteArray}, Op.bytesLess a.toList b.toList = true → ¬ leT b a := fun h k => by
    unfold leT at k
    rw [h] at k
    cases k
  intro k
  induction k with
  | zero => intro j hj; omega
  | succ k ih =>
    intro j hj hk
    have hs := hstep (k + 1) (by omega) hk
    rw [show k + 1 - 1 = k by omega] at hs
    by_cases hjk : j = k
    · subst hjk
      exact ⟨leT_of_less hs, fun e => hne hs (by rw [e]; exact leT_refl _)⟩
    · obtain ⟨h1, h2⟩ := ih (j := j) (by omega) (by omega)
      refine ⟨leT_trans h1 (leT_of_less hs), fun e => ?_⟩
      rw [e] at h1
      exact hne hs h1
theorem atts_rise {x : It} (hg : itemCode x = 0) : rises x.attrs = true := by
  cases he : x.name.toList.isEmpty
  · unfold itemCode at hg
    split at hg
    · omega
    · rw [if_neg (by rw [he]; simp)] at hg
      unfold elemCode at hg
      split at hg
      · omega
      · split at hg
        · omega
        · split at hg
          · unfold attrsCode at hg
            split at hg
            · omega
            · cases hf : x.attrs.find? (fun x => atFault x != 0) with
              | some y =>
                rw [hf] at hg
                have := List.find?_some hf
                rw [bne_iff_ne] at this
                exact absurd hg this
              | none =>
                rw [hf] at hg
                dsimp only at hg
                split at hg
                · assumption
                · omega
          · rename_i h3
            exact absurd hg h3
  · have e := text_attrs hg he
    rw [e]
    rfl
def firstNs (l : List At) (k : Nat) : List ByteArray := (List.range k).map fun i => (l.getD i dAt).name
theorem firstNs_more (l : List At) (k : Nat) : firstNs l (k + 1) = firstNs l k ++ [(l.getD k dAt).name] := by
  unfold firstNs
  rw [List.range_succ, List.map_append, List.map_cons, List.map_nil]
theorem firstNs_new {l : List At} (h : rises l = true) {k : Nat} (hk : k < l.length) : (l.getD k dAt).name ∉ firstNs l k := by
  unfold firstNs
  intro hm
  obtain ⟨j, hj, e⟩ := List.mem_map.1 hm
  exact (names_apart h (List.mem_range.1 hj) hk).2 e
theorem left_root {l : List At} (h : rises l = true) {k : Nat} (hk : k < l.length) : (l.getD k dAt).name ∈ leftT rootTs (firstNs l k) ↔ (l.getD k dAt).name ∈ rootTs := by
  rw [leftT_mem]
  exact ⟨fun h => h.1, fun h2 => ⟨h2, firstNs_new h hk⟩⟩
theorem has_in {ts : List ByteArray} {t : ByteArray} : 0 ≤ hasIx ts t ↔ t ∈ ts := by
  have h : ts.findIdx (fun x => x.toList == t.toList) < ts.length ↔ t ∈ ts := by
    rw [List.findIdx_lt_length]
    constructor
    · rintro ⟨x, hx, he⟩
      rw [beq_iff_eq] at he
      exact text_same he ▸ hx
    · intro hx
      exact ⟨t, hx, by simp⟩
  rw [← h]
  unfold hasIx
  split <;> omega
theorem kidOne_no {l : List It} {i : Nat} {sn : List ByteArray} {p : Pr} (hs : ¬ (l.getD i dIt).space.toList ≠ csL) (h : (l.getD i dIt).name ∉ leftT partTs sn) : kidOne l i (sn, p) = none := by
  unfold kidOne
  by_cases he : (l.getD i dIt).name.toList.isEmpty = true
  · rw [if_pos he]
  · rw [if_neg he, if_neg hs]
    by_cases hm : (l.getD i dIt).name ∈ sn
    · rw [if_pos (has_in.2 hm)]
    · rw [if_neg (fun e => hm (has_in.1 e)), partP_out (fun e => h (leftT_mem.2 ⟨e, hm⟩))]
theorem kidOne_yes {l : List It} {i : Nat} {sn : List ByteArray} {p : Pr} (he : (l.getD i dIt).name.toList.isEmpty = false) (hs : ¬ (l.getD i dIt).space.toList ≠ csL) (h : (l.getD i dIt).name ∈ leftT partTs sn) :
    kidOne l i (sn, p) = match partP l i p with | some q => some (sn ++ [(l.getD i dIt).name], q) | none => none := by
  unfold kidOne
  rw [if_neg (by rw [he]; simp), if_neg hs, if_neg (fun e => (leftT_mem.1 h).2 (has_in.1 e))]
  rfl
theorem kidOne_other {l : List It} {i : Nat} {sn : List ByteArray} {p : Pr} (he : (l.getD i dIt).name.toList.isEmpty = false) (hs : (l.getD i dIt).space.toList ≠ csL) : kidOne l i (sn, p) = some (sn, { p with more := p.more ++ movedTo l i (endL l i) (-1) }) := by
  unfold kidOne
  rw [if_neg (by rw [he]; simp), if_pos hs]
end Go.Proofs.YtjkmgpomcnplnaaGreatDoor
namespace Go.Proofs.YtjkmgpomcnplnaaGreatDoor
open Go.ChangeShapes Go.WideShapes Go.ChangeAt Go.RowKit
set_option linter.unusedVariables false
def mkey (t : ByteArray) : Lit := .string t.data.toList
theorem mkey_is (t : ByteArray) : WideAt.IsKeyLit (mkey t) := by simp [mkey, WideAt.IsKeyLit]
theorem mkey_ne {s t : ByteArray} (h : s ≠ t) : mkey s ≠ mkey t := by
  intro e
  apply h
  unfold mkey at e
  simp only [Lit.string.injEq] at e
  cases s
  cases t
  simp only [ByteArray.mk.injEq]
  exact Array.toList_inj.1 e
def methV (pb f : Nat) : Value := .func (.func f) #[.pointer (some ⟨pb, 0, none⟩)] #[]
theorem methV_inj {pb f g : Nat} (h : methV pb f = methV pb g) : f = g := by
  unfold methV at h
  injection h with h1 _ _
  injection h1
open Classical in
noncomputable def methElem (pb : Nat) (v : Value) : Option (DataW Unit × List MemPlace) :=
  if h : ∃ f, v = methV pb f then some (.lit (.int .i64 (Classical.choose h : Nat)), []) else if v = .nilFunc then some (.lit (.int .i64 (-1)), []) else none
theorem methElem_is (pb f : Nat) : methElem pb (methV pb f) = some (.lit (.int .i64 (f : Int)), []) := by
  have h : ∃ g, methV pb f = methV pb g := ⟨f, rfl⟩
  unfold methElem
  rw [dif_pos h]
  have := methV_inj (Classical.choose_spec h)
  rw [← this]
theorem methElem_nil (pb : Nat) : methElem pb .nilFunc = some (.lit (.int .i64 (-1)), []) := by
  have h : ¬ ∃ g, Value.nilFunc = methV pb g := fun ⟨g, h⟩ => by unfold methV at h; cases h
  unfold methElem
  rw [dif_neg h, if_pos rfl]
theorem methElem_inv {pb f : Nat} {v : Value} {ps : List MemPlace} (h : methElem pb v = some (.lit (.int .i64 (f : Int)), ps)) : v = methV pb f := by
  unfold methElem at h
  split at h
  · rename_i he
    simp only [Option.some.injEq, Prod.mk.injEq, DataW.lit.injEq, Lit.int.injEq] at h
    have h1 := Classical.choose_spec he
    have h2 : Classical.choose he = f := by have := h.1.2; omega
    rw [h2] at h1
    exact h1
  · split at h
    · simp only [Option.some.injEq, Prod.mk.injEq, DataW.lit.injEq, Lit.int.injEq] at h
      omega
    · cases h
structure May (D : DataW Unit) (ts : List ByteArray) (g : ByteArray → Nat) : Prop where
  isMap : Maps.IsMap D
  has : ∀ t, Maps.has D (mkey t) = true ↔ t ∈ ts
  at_ : ∀ t, t ∈ ts → ∀ z, D.atKey (mkey t) z = .lit (.int .i64 (g t : Int))
theorem May.empty (g : ByteArray → Nat) : May (.map []) [] g :=
  ⟨Maps.isMap_empty, fun t => ⟨fun h => by simp [Maps.has] at h, fun h => by cases h⟩, fun t h => by cases h⟩
theorem May.add {D : DataW Unit} {ts : List ByteArray} {g : ByteArray → Nat} {t : ByteArray} (h : May D ts g) (hn : t ∉ ts) : May (D.put (mkey t) (.lit (.int .i64 (g t : Int)))) (ts ++ [t]) g := by
  refine ⟨h.isMap.put _ _, fun s => ?_, fun s hs z => ?_⟩
  · by_cases e : s = t
    · subst e
      rw [Maps.has_put_same h.isMap (mkey_is s)]
      simp
    · rw [Maps.has_put_other (mkey_ne e), h.has s]
      simp [e]
  · by_cases e : s = t
    · subst e
      rw [Maps.atKey_put_same h.isMap (mkey_is s)]
    · rw [Maps.atKey_put_other (mkey_ne e)]
      exact h.at_ s (by simpa [e] using hs) z
open Classical in
theorem May.del {D : DataW Unit} {ts : List ByteArray} {g : ByteArray → Nat} (h : May D ts g) (x : ByteArray) : May (D.del (mkey x)) (ts.filter fun t => decide (t ≠ x)) g := by
  refine ⟨h.isMap.del _, fun s => ?_, fun s hs z => ?_⟩
  · rw [List.mem_filter]
    by_cases e : s = x
    · subst e
      rw [Maps.has_del_same]
      simp
    · rw [Maps.has_del_other (mkey_ne e), h.has s]
      simp [e]
  · rw [List.mem_filter] at hs
    have e : s ≠ x := by simpa using hs.2
    rw [Maps.atKey_del_other (mkey_ne e)]
    exact h.at_ s hs.1 z
theorem mkeyLaw : Maps.Keyed Tryz.prog 9 := Maps.string_keyed Tryz.underlying9
theorem mkeyOf (t : ByteArray) (h : t.size ≤ maxLen) : keyOf Tryz.prog 9 (.string t) = some (mkey t) := WideMaps.keyOf_string_mk Tryz.underlying9 h
theorem zeroF (w : World) : (zeroValue 93).run Tryz.prog w = .ok .nilFunc w := by kernel_rfl
set_option maxRecDepth 100000 in
set_option maxHeartbeats 1600000 in
theorem meet_no (pb m n : Nat) (D : DataW Unit) (ts : List ByteArray) (g : ByteArray → Nat) (nm t : ByteArray) (w : World) (hs : nm.size ≤ maxLen) (hown : w.ownsMap Tryz.prog 9 (methElem pb) m n D) (hm : May D ts g) (h : nm ∉ ts) :
    Calls Tryz.prog 71 #[.map (some m), .string nm, .string t] w fun e w' => e = .returned (.bool false) ∧ w' = w := by
  have HOWN := Lib.hid hown
  have HKEY := Lib.hid (mkeyOf nm hs)
  have HH : Hid (Maps.has D (mkey nm) = false) := Lib.hid (by
    cases e : Maps.has D (mkey nm)
    · rfl
    · exact absurd ((hm.has nm).1 e) h)
  clear hown hm h hs
  go_enter Tryz.func71, Tryz.ntmps71
  go_wp2_with (at_lookup; refine wpList_lookup_own_ok _ rfl _ _ 95 rfl 9 93 mkeyLaw Tryz.underlying95 (methElem pb) (zeroF _) (.lit (.int .i64 (-1))) [] (methElem_nil pb) m n D rfl HOWN.out _ _ rfl HKEY.out ?_; intro v ps hv; rw [HH.out]; clear hv)
  go_ret
  exact ⟨rfl, rfl⟩
set_option maxRecDepth 100000 in
set_option maxHeartbeats 1600000 in
theorem meet_yes (pb m n : Nat) (D : DataW Unit) (ts : List ByteArray) (g : ByteArray → Nat) (nm t : ByteArray) (w : World) (hs : nm.size ≤ maxLen) (hown : w.ownsMap Tryz.prog 9 (methElem pb) m n D) (hm : May D ts g) (h : nm ∈ ts) (Q : Bool → World → Prop) (hF : ∀ args W, (Sem.run Tryz.prog (callFunc (g nm) args) W) = .ok (.enter (g nm) args) W)
    (hK : ∀ w', w'.ownsMap Tryz.prog 9 (methElem pb) m n (D.del (mkey nm)) → w.mapTurned w' m → Calls Tryz.prog (g nm) #[.pointer (some ⟨pb, 0, none⟩), .string t] w' fun e w2 => ∃ b, e = .returned (.bool b) ∧ Q b w2) :
    Calls Tryz.prog 71 #[.map (some m), .string nm, .string t] w fun e w2 => ∃ b, e = .returned (.bool b) ∧ Q b w2 := by
  have HOWN := Lib.hid hown
  have HKEY := Lib.hid (mkeyOf nm hs)
  have HK := Lib.hid hK
  have HF := Lib.hid hF
  have HH : Hid (Maps.has D (mkey nm) = true) := Lib.hid ((hm.has nm).2 h)
  have HA := Lib.hid (hm.at_ nm h (.lit (.int .i64 (-1))))
  clear hown hm h hs hK hF
  generalize g nm = f at HK HA HF
  go_enter Tryz.func71, Tryz.ntmps71
  go_wp2_with (first
    | (at_lookup; refine wpList_lookup_own_ok _ rfl _ _ 95 rfl 9 93 mkeyLaw Tryz.underlying95 (methElem pb) (zeroF _) (.lit (.int .i64 (-1))) [] (methElem_nil pb) m n D rfl HOWN.out _ _ rfl HKEY.out ?_; intro v ps hv; rw [HA.out] at hv; obtain rfl := methElem_inv hv; rw [HH.out]; clear hv; unfold methV)
    | (at_delete; refine wpList_delete_own _ rfl _ _ 95 9 rfl 93 mkeyLaw Tryz.underlying95 (methElem pb) m n D rfl HOWN.out _ _ rfl HKEY.out ?_; intro w1 hown1 hturn1; have HO1 := Lib.hid hown1; have HT1 := Lib.hid hturn1; clear hown1 hturn1))
  rw [HF.out, Oper.upon_enter]
  refine (HK.out _ HO1.out HT1.out).mono ?_
  rintro e w2 ⟨b, rfl, hq⟩
  have HQ := Lib.hid hq
  clear hq
  go_wp2
  go_ret
  exact ⟨b, rfl, HQ.out⟩
theorem wpList_insert_in {P : Program} (w : World) {ops : Array Oper} {rest : List Oper} {o : Oper} {a : Act} {Q : Exit → Act → World → Prop} (hg : o.guard = none) (m x v : Operand) (t : TypeId) (hop : o.op = Op.insert t m x v)
    (k e : TypeId) (K : Maps.Keyed P k) (ht : P.underlying t = some (.map k e)) (R : Value → Option (DataW Unit × List MemPlace)) (b n : Nat) (D : DataW Unit)
    (hm : a.eval m = .map (some b)) (hown : w.ownsMap P k R b n D) (hn : n < maxLen) (key val : Value) (kl : Lit) (hx : a.eval x = key) (hv : a.eval v = val) (hkey : keyOf P k key = some kl)
    (d : DataW Unit) (ps : List MemPlace) (hval : R val = some (d, ps))
    (hK : ∀ w', w'.ownsMap P k R b (n + 1) (D.put kl d) → w.mapTurned w' b → wpList P ops Q rest (a.put o.dst undef) w') :
    wpList P ops Q (o :: rest) a w := by
  refine wpList_plain hg fun K' hK' => ?_
  obtain ⟨w', hrun, r1, r2⟩ := hown.store K ht hn hkey hval
  unfold Oper.wp
  simp [execOp, hop, hm, hx, hv, hrun, Result.andThen]
  exact hK' _ _ (hK w' r1 r2)
theorem May.three {g : ByteArray → Nat} {a b c : ByteArray} (h1 : a ≠ b) (h2 : a ≠ c) (h3 : b ≠ c) :
    May ((((DataW.map [] : DataW Unit).put (mkey a) (.lit (.int .i64 (g a : Int)))).put (mkey b) (.lit (.int .i64 (g b : Int)))).put (mkey c) (.lit (.int .i64 (g c : Int)))) [a, b, c] g := by
  have x1 := (May.empty g).add (t := a) (by simp)
  have x2 := x1.add (t := b) (by simp [h1.symm])
  have x3 := x2.add (t := c) (by simp [h2.symm, h3.symm])
  exact x3
structure PrMut (w0 w : World) (b : Nat) (p : Pr) (a : Option Addr) (n c : Nat) : Prop where
  is : PrAt w b p a n c
  ge : w0.heap.size ≤ b
  below : Below w0.heap.size w0 w
  fz : ∀ i, w.frozen? ⟨b, i, none⟩ = false
theorem mut_at {w : World} {p : Addr} {u v : Value} (h : w.cell? p = some u) : (w.setCell p v).cell? p = some v := World.cell?_setCell_same _ _ _ h
theorem mut_oth {w : World} {b i j : Nat} {v u : Value} (h : i ≠ j) (h2 : w.cell? ⟨b, j, none⟩ = some u) : (w.setCell ⟨b, i, none⟩ v).cell? ⟨b, j, none⟩ = some u := (World.cell?_setCell_other _ _ _ _ (fun e => absurd (congrArg Addr.off e) h)).trans h2
theorem PrMut.keep {w0 w w' : World} {b : Nat} {p : Pr} {a : Option Addr} {n c : Nat} (h : PrMut w0 w b p a n c) (hb : Below w.heap.size w w') : PrMut w0 w' b p a n c :=
  ⟨h.is.below hb, h.ge, h.below.trans (hb.mono h.below.size), fun i => (hb.frozen (by exact h.is.lt)).trans (h.fz i)⟩
theorem PrMut.back {w0 w : World} {b : Nat} {p q : Pr} {a a' : Option Addr} {n c n' c' : Nat} (h : PrMut w0 w b p a n c) {i : Nat} {v : Value} (hq : PrAt (w.setCell ⟨b, i, none⟩ v) b q a' n' c') : PrMut w0 (w.setCell ⟨b, i, none⟩ v) b q a' n' c' :=
  ⟨hq, h.ge, h.below.setCell h.ge _, fun j => by rw [World.frozen?_setCell]; exact h.fz j⟩
theorem PrMut.setKind {w0 w : World} {b : Nat} {p : Pr} {a : Option Addr} {n c : Nat} (h : PrMut w0 w b p a n c) (v : Int) : PrMut w0 (w.setCell ⟨b, 0, none⟩ (.int .i64 v)) b { p with kind := v } a n c :=
  h.back ⟨by simpa using h.is.lt, mut_at h.is.c0, mut_oth (by decide) h.is.c1, mut_oth (by decide) h.is.c2, mut_oth (by decide) h.is.c3, mut_oth (by decide) h.is.c4, mut_oth (by decide) h.is.c5, mut_oth (by decide) h.is.c6⟩
theorem PrMut.setSender {w0 w : World} {b : Nat} {p : Pr} {a : Option Addr} {n c : Nat} (h : PrMut w0 w b p a n c) (v : ByteArray) : PrMut w0 (w.setCell ⟨b, 1, none⟩ (.string v)) b { p with sender := v } a n c :=
  h.back ⟨by simpa using h.is.lt, mut_oth (by decide) h.is.c0, mut_at h.is.c1, mut_oth (by decide) h.is.c2, mut_oth (by decide) h.is.c3, mut_oth (by decide) h.is.c4, mut_oth (by decide) h.is.c5, mut_oth (by decide) h.is.c6⟩
theorem PrMut.setGoal {w0 w : World} {b : Nat} {p : Pr} {a : Option Addr} {n c : Nat} (h : PrMut w0 w b p a n c) (v : ByteArray) : PrMut w0 (w.setCell ⟨b, 2, none⟩ (.string v)) b { p with goal := v } a n c :=
  h.back ⟨by simpa using h.is.lt, mut_oth (by decide) h.is.c0, mut_oth (by decide) h.is.c1, mut_at h.is.c2, mut_oth (by decide) h.is.c3, mut_oth (by decide) h.is.c4, mut_oth (by decide) h.is.c5, mut_oth (by decide) h.is.c6⟩
theorem PrMut.setShown {w0 w : World} {b : Nat} {p : Pr} {a : Option Addr} {n c : Nat} (h : PrMut w0 w b p a n c) (v : Int) : PrMut w0 (w.setCell ⟨b, 3, none⟩ (.int .i64 v)) b { p with shown := v } a n c :=
  h.back ⟨by simpa using h.is.lt, mut_oth (by decide) h.is.c0, mut_oth (by decide) h.is.c1, mut_oth (by decide) h.is.c2, mut_at h.is.c3, mut_oth (by decide) h.is.c4, mut_oth (by decide) h.is.c5, mut_oth (by decide) h.is.c6⟩
theorem PrMut.setStatus {w0 w : World} {b : Nat} {p : Pr} {a : Option Addr} {n c : Nat} (h : PrMut w0 w b p a n c) (v : ByteArray) : PrMut w0 (w.setCell ⟨b, 4, none⟩ (.string v)) b { p with status := v } a n c :=
  h.back ⟨by simpa using h.is.lt, mut_oth (by decide) h.is.c0, mut_oth (by decide) h.is.c1, mut_oth (by decide) h.is.c2, mut_oth (by decide) h.is.c3, mut_at h.is.c4, mut_oth (by decide) h.is.c5, mut_oth (by decide) h.is.c6⟩
theorem PrMut.setPrio {w0 w : World} {b : Nat} {p : Pr} {a : Option Addr} {n c : Nat} (h : PrMut w0 w b p a n c) (v : Int) : PrMut w0 (w.setCell ⟨b, 5, none⟩ (.int .i64 v)) b { p with prio := v } a n c :=
  h.back ⟨by simpa using h.is.lt, mut_oth (by decide) h.is.c0, mut_oth (by decide) h.is.c1, mut_oth (by decide) h.is.c2, mut_oth (by decide) h.is.c3, mut_oth (by decide) h.is.c4, mut_at h.is.c5, mut_oth (by decide) h.is.c6⟩
theorem PrMut.setMore {w0 w : World} {b : Nat} {p : Pr} {a : Option Addr} {n c : Nat} (h : PrMut w0 w b p a n c) (a' : Option Addr) (n' c' : Nat) (m : List It) : PrMut w0 (w.setCell ⟨b, 6, none⟩ (.slice a' n' c')) b { p with more := m } a' n' c' :=
  h.back ⟨by simpa using h.is.lt, mut_oth (by decide) h.is.c0, mut_oth (by decide) h.is.c1, mut_oth (by decide) h.is.c2, mut_oth (by decide) h.is.c3, mut_oth (by decide) h.is.c4, mut_oth (by decide) h.is.c5, mut_at h.is.c6⟩
theorem PrMut.new (w0 w : World) (hb : Below w0.heap.size w0 w) (t : TypeId) (p : Pr) (a : Option Addr) (n c : Nat) : PrMut w0 (w.alloc (.cells #[.int .i64 p.kind, .string p.sender, .string p.goal, .int .i64 p.shown, .string p.status, .int .i64 p.prio, .slice a n c] t)) w.heap.size p a n c :=
  ⟨PrAt.new w t p a n c, hb.size, hb.trans ((below1 w _).mono hb.size), fun i => by simp⟩
def RootRes (w0 : World) (pb : Nat) (a : Option Addr) (n c : Nat) (r : Option Pr) (e : Ending) (w' : World) : Prop :=
  ∃ (bb : Bool) (q : Pr), e = .returned (.bool bb) ∧ PrMut w0 w' pb q a n c ∧ (bb = true → r = some q) ∧ (bb = false → r = none)
theorem kindPlace (w0 w : World) (pb : Nat) (p : Pr) (a : Option Addr) (n c : Nat) (h : PrMut w0 w pb p a n c) (t : ByteArray) :
    Calls Tryz.prog 49 #[] w fun e w' => ∃ v, e = .returned v ∧ PrMut w0 w' pb p a n c ∧ Below w.heap.size w w' ∧ ∀ W, Below w'.heap.size w' W → Calls Tryz.prog 86 #[v, .string t] W fun e W' => e = .returned (.int .i64 (hasIx kindWs t)) ∧ ∃ n, W' = W.drewN n :=
  (l7Kinds_row w).mono fun e w' ⟨he, hr, hb⟩ => ⟨_, he, h.keep hb, hb, fun W hW => l6Has_any _ kindWs t W (hr.below hW)⟩
theorem prT_list : prT.toList = [112, 114, 101, 115, 101, 110, 99, 101] := by rw [ByteArray.toList_eq]; rfl
theorem fromT_list : fromT.toList = [102, 114, 111, 109] := by rw [ByteArray.toList_eq]; rfl
theorem toT_list : toT.toList = [116, 111] := by rw [ByteArray.toList_eq]; rfl
theorem typeT_list : typeT.toList = [116, 121, 112, 101] := by rw [ByteArray.toList_eq]; rfl
set_option maxRecDepth 100000 in
set_option maxHeartbeats 3200000 in
theorem l7Root_any (b o pb : Nat) (x : It) (p : Pr) (a : Option Addr) (n c : Nat) (w0 w : World) (hx : ItAt w0 b o x) (h5 : x.attrs.length ≤ 5) (h : PrMut w0 w pb p a n c) :
    Calls Tryz.prog 83 #[.pointer (some ⟨b, o, none⟩), .pointer (some ⟨pb, 0, none⟩)] w (RootRes w0 pb a n c (rootP x p)) := by
  have hxw := hx.below h.below
  have e2 := hxw.c2
  have e3 := hxw.c3
  have H := Lib.hid h
  have HX := Lib.hid hx
  have hlt : b < w0.heap.size := hx.lt
  have hge : w0.heap.size ≤ pb := h.ge
  clear h hx hxw
  by_cases hn : x.name.toList = [112, 114, 101, 115, 101, 110, 99, 101]
  case neg =>
    have hr : rootP x p = none := by unfold rootP; rw [prT_list, if_neg fun q => hn q.1]
    rw [hr]
    have HNN := Lib.hid hn
    have hn2 : (x.name.toList == [112, 114, 101, 115, 101, 110, 99, 101]) = false := by simpa using hn
    clear hn
    obtain ⟨xd, xt, xs, xn, xa⟩ := x
    dsimp only at hn2 e2 e3
    go_enter Tryz.func83, Tryz.ntmps83
    go_wp2
    go_ret
    exact ⟨false, p, rfl, H.out, by simp, fun _ => rfl⟩
  by_cases hs : x.space.toList = csL
  case neg =>
    have hr : rootP x p = none := by unfold rootP; rw [if_neg fun q => hs q.2]
    rw [hr]
    unfold csL at hs
    have hs2 : (x.space.toList == [106, 97, 98, 98, 101, 114, 58, 99, 108, 105, 101, 110, 116]) = false := by simpa using hs
    have hn2 : (x.name.toList == [112, 114, 101, 115, 101, 110, 99, 101]) = true := by simpa using hn
    clear hs hn
    obtain ⟨xd, xt, xs, xn, xa⟩ := x
    dsimp only at hn2 hs2 e2 e3
    go_enter Tryz.func83, Tryz.ntmps83
    go_wp2
    go_ret
    exact ⟨false, p, rfl, H.out, by simp, fun _ => rfl⟩
  have hr : rootP x p = rootF x.attrs x.attrs.length 0 p := by unfold rootP; rw [prT_list, if_pos ⟨hn, hs⟩]
  rw [hr]
  unfold csL at hs
  have hs2 : (x.space.toList == [106, 97, 98, 98, 101, 114, 58, 99, 108, 105, 101, 110, 116]) = true := by simpa using hs
  have hn2 : (x.name.toList == [112, 114, 101, 115, 101, 110, 99, 101]) = true := by simpa using hn
  clear hs hn hr
  obtain ⟨a4, n4, c4, d4, hat⟩ := HX.out.c4
  have hlen := hat.len
  have D4 : Hid (∀ W, Below w0.heap.size w0 W → W.cell? ⟨b, o + 4, none⟩ = some (.slice a4 n4 c4)) := Lib.hid fun W hW => (hW.cell (p := ⟨b, o + 4, none⟩) hlt).trans d4
  have HAT := Lib.hid hat
  clear d4 hat HX
  obtain ⟨xd, xt, xs, xn, xa⟩ := x
  dsimp only at hn2 hs2 e2 e3 h5 hlen HAT ⊢
  rw [hlen] at h5 ⊢
  have HLEN := Lib.hid hlen
  clear hlen
  have d4 := D4.out w H.out.below
  obtain ⟨r0, hr0⟩ : ∃ r0, rootF xa n4 0 p = r0 := ⟨_, rfl⟩
  rw [hr0]
  have HR0 := Lib.hid hr0
  clear hr0
  go_enter Tryz.func83, Tryz.ntmps83
  go_wp2
  go_loopw [24] (fun i wr => ∃ (k : Nat) (q : Pr), k ≤ n4 ∧ i = .int .i64 (k : Int) ∧ PrMut w0 wr pb q a n c ∧ r0 = rootF xa (n4 - k) k q) (fun i _ => n4 - (intOf i).toNat)
  case atStart => exact ⟨0, p, Nat.zero_le _, rfl, H.out, HR0.out.symm⟩
  case round =>
    obtain ⟨k, q, hk, rfl, hq, hrr⟩ := hrel
    have HQ := Lib.hid hq
    have HRR := Lib.hid hrr
    clear hq hrr d4 e2 e3
    by_cases hlt2 : k < n4
    · have q0 : (k : Int) < (n4 : Int) := by omega
      obtain ⟨ab, ao, rfl, hab, hcs⟩ := HAT.out.row.resolve_left (by omega)
      have d4 := D4.out wr HQ.out.below
      have f0 := (HQ.out.below.cell (p := ⟨ab, ao + k * 2, none⟩) hab).trans (hcs k hlt2).1
      have f1 := (HQ.out.below.cell (p := ⟨ab, ao + k * 2 + 1, none⟩) hab).trans (hcs k hlt2).2
      have HST : Hid (∀ s, rootOne (xa.getD k dAt) q = some s → r0 = rootF xa (n4 - (k + 1)) (k + 1) s) := Lib.hid fun s e => by
        rw [HRR.out, show n4 - k = (n4 - (k + 1)) + 1 from by omega]
        exact rootF_step e
      have HNO : Hid (rootOne (xa.getD k dAt) q = none → r0 = none) := Lib.hid fun e => by
        rw [HRR.out, show n4 - k = (n4 - (k + 1)) + 1 from by omega]
        exact rootF_stop e
      clear hcs HRR
      generalize xa.getD k dAt = y at f0 f1 HST HNO
      obtain ⟨yn, yv⟩ := y
      unfold rootOne at HST HNO
      dsimp only at f0 f1 HST HNO
      rw [fromT_list, toT_list, typeT_list] at HST HNO
      have z1 := HQ.out.is.c1
      have z2 := HQ.out.is.c2
      have z0 := HQ.out.is.c0
      have y0 := HQ.out.fz 0
      have y1 := HQ.out.fz 1
      have y2 := HQ.out.fz 2
      by_cases g1 : yn.toList = [102, 114, 111, 109]
      · have S1 := Lib.hid (HST.out _ (by rw [if_pos g1]))
        have g1b : (yn.toList == [102, 114, 111, 109]) = true := by simpa using g1
        clear HST HNO g1
        go_wp2
        go_roundw
        case rel => exact ⟨k + 1, _, by omega, by go_num, HQ.out.setSender yv, S1.out⟩
        case measure => simp [intOf]; omega
      have g1b : (yn.toList == [102, 114, 111, 109]) = false := by simpa using g1
      by_cases g2 : yn.toList = [116, 111]
      · have S1 := Lib.hid (HST.out _ (by rw [if_neg g1, if_pos g2]))
        have g2b : (yn.toList == [116, 111]) = true := by simpa using g2
        clear HST HNO g1 g2
        go_wp2
        go_roundw
        case rel => exact ⟨k + 1, _, by omega, by go_num, HQ.out.setGoal yv, S1.out⟩
        case measure => simp [intOf]; omega
      have g2b : (yn.toList == [116, 111]) = false := by simpa using g2
      by_cases g3 : yn.toList = [116, 121, 112, 101]
      case neg =>
        have S1 := Lib.hid (HNO.out (by rw [if_neg g1, if_neg g2, if_neg g3]))
        have g3b : (yn.toList == [116, 121, 112, 101]) = false := by simpa using g3
        clear HST HNO g1 g2 g3
        go_wp2
        go_ret
        exact ⟨false, q, rfl, HQ.out, by simp, fun _ => S1.out⟩
      have g3b : (yn.toList == [116, 121, 112, 101]) = true := by simpa using g3
      have HS3 : Hid (¬ hasIx kindWs yv < 1 → r0 = rootF xa (n4 - (k + 1)) (k + 1) { q with kind := hasIx kindWs yv }) := Lib.hid fun e => HST.out _ (by rw [if_neg g1, if_neg g2, if_pos g3, if_neg e])
      have HN3 : Hid (hasIx kindWs yv < 1 → r0 = none) := Lib.hid fun e => HNO.out (by rw [if_neg g1, if_neg g2, if_pos g3, if_pos e])
      clear HST HNO g1 g2 g3
      have HQD := Lib.hid (HQ.out.keep (Below.refl wr.heap.size wr).drew)
      have KK := Lib.hid (kindPlace w0 wr.drew pb q a n c HQD.out yv)
      generalize hasIx kindWs yv = ix at HS3 HN3 KK
      have hab2 : ab < wr.heap.size := World.block_lt_of_cell? _ _ f1
      have HC : Hid (∀ W, Below wr.drew.heap.size wr.drew W → W.cell? ⟨ab, ao + k * 2 + 1, none⟩ = some (.string yv)) := Lib.hid fun W hW => (hW.cell (p := ⟨ab, ao + k * 2 + 1, none⟩) hab2).trans f1
      go_upto_region 14 with fail
      have hne : pb ≠ ab := by omega
      have hS0 := HC.out wr.drew (Below.refl _ _)
      clear f0 f1 z0 z1 z2 y0 y1 y2 d4
      go_region_held3 (fun W => W.cell? ⟨ab, ao + k * 2 + 1, none⟩ = some (.string yv)) (first | with_reducible assumption | with_reducible exact HC.out _ hb1 | with_reducible exact HC.out _ hb2 | exact hst2 _)
        (first
          | (go_at_call 49; refine KK.out.mono ?_; rintro e w1 ⟨v, rfl, hq1, hb1, kh⟩; have hK1 := Lib.hid kh; have hQ1 := Lib.hid hq1; clear kh hq1)
          | (go_at_call 86; ((with_reducible refine (hK1.out _ (Below.refl _ _)).mono ?_)); rintro e w2 ⟨rfl, nd, rfl⟩; have hq2 := hQ1.out.keep (below_drewN (Below.refl _ _) nd); have z0 := hq2.is.c0; have y0 := hq2.fz 0; have hb2 := hb1.trans (below_drewN (Below.refl _ _) nd); have HQ2 := Lib.hid hq2; have hst2 : ∀ u, ((w1.drewN nd).setCell ⟨pb, 0, none⟩ u).cell? ⟨ab, ao + k * 2 + 1, none⟩ = some (.string yv) := fun u => (World.cell?_setCell_other _ _ _ _ (fun q => hne (congrArg Addr.block q))).trans (HC.out _ hb2); clear hq2))
      have hq3 := HQ2.out.setKind ix
      clear hst2 z0 y0 hb2 hQ1 hK1 HQ2
      generalize (w1.drewN nd).setCell ⟨pb, 0, none⟩ (.int .i64 ix) = w3 at hq3 ⊢
      have z0 := hq3.is.c0
      have HQ3 := Lib.hid hq3
      clear hq3
      by_cases hix : ix < 1
      · have S1 := Lib.hid (HN3.out hix)
        clear HN3 HS3
        go_wp2
        go_ret
        exact ⟨false, _, rfl, HQ3.out, by simp, fun _ => S1.out⟩
      · have S1 := Lib.hid (HS3.out (by omega))
        clear HN3 HS3
        go_wp2
        go_roundw
        case rel => exact ⟨k + 1, _, by omega, by go_num, HQ3.out, S1.out⟩
        case measure => simp [intOf]; omega
    · obtain rfl : k = n4 := by omega
      have S1 : Hid (r0 = some q) := Lib.hid (by rw [HRR.out, Nat.sub_self]; rfl)
      have d4 := D4.out wr HQ.out.below
      go_wp2
      go_ret
      exact ⟨true, q, rfl, HQ.out, fun _ => S1.out, by simp⟩
end Go.Proofs.YtjkmgpomcnplnaaGreatDoor
