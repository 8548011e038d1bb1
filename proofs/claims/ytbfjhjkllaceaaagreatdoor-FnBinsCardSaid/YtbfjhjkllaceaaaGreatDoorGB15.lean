/- Texts laid together, part 15. -/
import Derived.Test.YtbfjhjkllaceaaaGreatDoorGB14
import Derived.LaidEql
import Derived.Stop.Asserts
import Derived.RowKitTokens
import Derived.IntWalk

/- Plain facts on the program's reader of frames: no run in this text. -/
namespace Go.Proofs.YtbfjhjkllaceaaaGreatDoor
set_option linter.unusedVariables false

/-- a number is read: it, and what is ahead then -/
def pR (xs : List Int) : List Int := if vreadOk xs then xs.drop (vreadK xs) else []
/-- a count is read -/
def cN (xs : List Int) : Int := if ((pR xs).length : Int) < vreadN xs then 0 else vreadN xs
def cR (xs : List Int) : List Int := if ((pR xs).length : Int) < vreadN xs then [] else pR xs
/-- a text is read -/
def tR (xs : List Int) : List Int := if sOk xs then xs.drop (ssz xs).toNat else []
/-- a text is read by its place -/
def mN (ts : List ByteArray) (xs : List Int) : ByteArray := if (ts.length : Int) ≤ vreadN xs then ByteArray.empty else ts.getD (vreadN xs).toNat ByteArray.empty
def mR (ts : List ByteArray) (xs : List Int) : List Int := if (ts.length : Int) ≤ vreadN xs then [] else pR xs
/-- attributes are read -/
def aF (ts : List ByteArray) : Nat → List Int → List At → List Int × List At
  | 0, xs, es => (xs, es)
  | n + 1, xs, es => aF ts n (mR ts (mR ts xs)) (es ++ [⟨mN ts xs, mN ts (mR ts xs)⟩])
def aA (ts : List ByteArray) (xs : List Int) : List Int × List At := aF ts (cN xs).toNat (cR xs) []
/-- an item is read -/
def iN (ts : List ByteArray) (xs : List Int) : It :=
  if vreadN (pR xs) = 0 then ⟨vreadN xs, mN ts (pR (pR xs)), ByteArray.empty, ByteArray.empty, []⟩
  else if vreadN (pR xs) = 1 then ⟨vreadN xs, ByteArray.empty, mN ts (pR (pR xs)), mN ts (mR ts (pR (pR xs))), (aA ts (mR ts (mR ts (pR (pR xs))))).2⟩
  else ⟨vreadN xs, ByteArray.empty, ByteArray.empty, ByteArray.empty, []⟩
def iR (ts : List ByteArray) (xs : List Int) : List Int :=
  if vreadN (pR xs) = 0 then mR ts (pR (pR xs))
  else if vreadN (pR xs) = 1 then (aA ts (mR ts (mR ts (pR (pR xs))))).1
  else []
/-- strings are read -/
def sF : Nat → List Int → List ByteArray → List Int × List ByteArray
  | 0, xs, ts => (xs, ts)
  | n + 1, xs, ts => sF n (tR xs) (addT ts (stxt xs))
/-- items are read -/
def iF (ts : List ByteArray) : Nat → List Int → List It → List Int × List It
  | 0, xs, es => (xs, es)
  | n + 1, xs, es => iF ts n (iR ts xs) (es ++ [iN ts xs])
/-- the frame is read -/
def pS (xs : List Int) : List Int × List ByteArray := sF (cN xs).toNat (cR xs) []
def pI (xs : List Int) : List It := (iF (pS xs).2 (cN (pS xs).1).toNat (cR (pS xs).1) []).2

theorem pR_len (xs : List Int) : (pR xs).length ≤ xs.length := by unfold pR; split <;> simp
theorem cR_len (xs : List Int) : (cR xs).length ≤ xs.length := by
  have := pR_len xs
  unfold cR
  split
  · simp
  · exact this
theorem tR_len (xs : List Int) : (tR xs).length ≤ xs.length := by unfold tR; split <;> simp
theorem mR_len (ts : List ByteArray) (xs : List Int) : (mR ts xs).length ≤ xs.length := by
  have := pR_len xs
  unfold mR
  split
  · simp
  · exact this
theorem cN_bd (xs : List Int) : 0 ≤ cN xs ∧ cN xs ≤ xs.length := by
  have h1 := pR_len xs
  have h2 := vreadN_bd xs
  unfold cN
  split <;> omega
theorem aF_len (ts : List ByteArray) : ∀ (n : Nat) (xs : List Int) (es : List At), (aF ts n xs es).1.length ≤ xs.length ∧ (aF ts n xs es).2.length = es.length + n
  | 0, xs, es => ⟨Nat.le_refl _, rfl⟩
  | n + 1, xs, es => by
    have h := aF_len ts n (mR ts (mR ts xs)) (es ++ [⟨mN ts xs, mN ts (mR ts xs)⟩])
    have h1 := mR_len ts (mR ts xs)
    have h2 := mR_len ts xs
    simp only [List.length_append, List.length_cons, List.length_nil] at h
    unfold aF
    omega
theorem aA_len (ts : List ByteArray) (xs : List Int) : (aA ts xs).1.length ≤ xs.length ∧ (aA ts xs).2.length ≤ xs.length := by
  have h := aF_len ts (cN xs).toNat (cR xs) []
  have h1 := cR_len xs
  have h2 := cN_bd xs
  unfold aA
  simp only [List.length_nil] at h
  omega
theorem iR_len (ts : List ByteArray) (xs : List Int) : (iR ts xs).length ≤ xs.length := by
  have h1 := pR_len xs
  have h2 := pR_len (pR xs)
  have h3 := mR_len ts (pR (pR xs))
  have h4 := mR_len ts (mR ts (pR (pR xs)))
  have h5 := (aA_len ts (mR ts (mR ts (pR (pR xs))))).1
  unfold iR
  split
  · omega
  · split
    · omega
    · simp
theorem sF_len : ∀ (n : Nat) (xs : List Int) (ts : List ByteArray), (sF n xs ts).1.length ≤ xs.length ∧ (sF n xs ts).2.length ≤ ts.length + n
  | 0, xs, ts => ⟨Nat.le_refl _, Nat.le_refl _⟩
  | n + 1, xs, ts => by
    have h := sF_len n (tR xs) (addT ts (stxt xs))
    have h1 := tR_len xs
    have h2 := addT_length ts (stxt xs)
    unfold sF
    omega
theorem sF_small : ∀ (n : Nat) (xs : List Int) (ts : List ByteArray), (∀ t ∈ ts, t.size ≤ 60) → ∀ t ∈ (sF n xs ts).2, t.size ≤ 60
  | 0, xs, ts, h => h
  | n + 1, xs, ts, h => by
    unfold sF
    refine sF_small n _ _ (fun t ht => ?_)
    rcases mem_addT.1 ht with h1 | rfl
    · exact h t h1
    · exact stxt_small xs
theorem mN_small {ts : List ByteArray} (h : ∀ t ∈ ts, t.size ≤ 60) (xs : List Int) : (mN ts xs).size ≤ 60 := by
  have h0 := (vreadN_bd xs).1
  unfold mN
  split
  · simp
  · exact h _ (getD_memI (by omega))
theorem aF_small {ts : List ByteArray} (h : ∀ t ∈ ts, t.size ≤ 60) : ∀ (n : Nat) (xs : List Int) (es : List At), (∀ i, (es.getD i dAt).name.size ≤ 60 ∧ (es.getD i dAt).value.size ≤ 60) → ∀ i, ((aF ts n xs es).2.getD i dAt).name.size ≤ 60 ∧ ((aF ts n xs es).2.getD i dAt).value.size ≤ 60
  | 0, xs, es, he => he
  | n + 1, xs, es, he => by
    unfold aF
    exact aF_small h n _ _ (sizes_snoc he (mN_small h _) (mN_small h _))
theorem iN_read {ts : List ByteArray} (h : ∀ t ∈ ts, t.size ≤ 60) (xs : List Int) (hl : xs.length ≤ 3000) : ReadIt (iN ts xs) := by
  have h1 := vreadN_bd xs
  have h3 := mR_len ts (mR ts (pR (pR xs)))
  have h4 := mR_len ts (pR (pR xs))
  have h5 := pR_len (pR xs)
  have h6 := pR_len xs
  have h7 := (aA_len ts (mR ts (mR ts (pR (pR xs))))).2
  have h8 := aF_small h (cN (mR ts (mR ts (pR (pR xs))))).toNat (cR (mR ts (mR ts (pR (pR xs))))) [] (fun i => by simp [dAt])
  have h9 := mN_small h (pR (pR xs))
  have h10 := mN_small h (mR ts (pR (pR xs)))
  unfold iN
  split
  · exact ⟨h1, ⟨h9, by simp, by simp⟩, by simp, fun i => by simp [dAt]⟩
  · split
    · exact ⟨h1, ⟨by simp, h9, h10⟩, by simp only; omega, h8⟩
    · exact ⟨h1, ⟨by simp, by simp, by simp⟩, by simp, fun i => by simp [dAt]⟩
theorem iF_read {ts : List ByteArray} (h : ∀ t ∈ ts, t.size ≤ 60) : ∀ (n : Nat) (xs : List Int) (es : List It), xs.length ≤ 3000 → (∀ i, ReadIt (es.getD i dIt)) → (∀ i, ReadIt ((iF ts n xs es).2.getD i dIt)) ∧ (iF ts n xs es).2.length = es.length + n
  | 0, xs, es, hl, he => ⟨he, rfl⟩
  | n + 1, xs, es, hl, he => by
    have h1 := iR_len ts xs
    have := iF_read h n (iR ts xs) (es ++ [iN ts xs]) (by omega) (reads_snoc he (iN_read h xs hl))
    unfold iF
    refine ⟨this.1, ?_⟩
    have h2 := this.2
    simp only [List.length_append, List.length_cons, List.length_nil] at h2
    omega

theorem p_app (N : Nat) (D : List Int) (hN : N ≤ 9223372036854775807) : vreadN (vput N ++ D) = N ∧ pR (vput N ++ D) = D := by
  obtain ⟨h1, h2, h3⟩ := vreadApp N D hN
  unfold pR
  rw [h1, h3, if_pos rfl, List.drop_left]
  exact ⟨h2, rfl⟩
theorem c_app (N : Nat) (D : List Int) (hN : N ≤ 9223372036854775807) (hD : N ≤ D.length) : cN (vput N ++ D) = N ∧ cR (vput N ++ D) = D := by
  obtain ⟨h1, h2⟩ := p_app N D hN
  unfold cN cR
  rw [h1, h2, if_neg (by omega), if_neg (by omega)]
  exact ⟨rfl, rfl⟩
theorem t_app (t : ByteArray) (D : List Int) (ht : textFault t.data.toList = 0) : stxt (strB t ++ D) = t ∧ tR (strB t ++ D) = D := by
  obtain ⟨h1, h2, h3⟩ := sreadApp t D ht
  unfold tR
  rw [h1, h3, if_pos rfl, Int.toNat_natCast, List.drop_left]
  exact ⟨h2, rfl⟩
theorem m_app (ts : List ByteArray) (t : ByteArray) (D : List Int) (h : 0 ≤ hasIx ts t) (hl : ts.length ≤ 100000) : mN ts (refB ts t ++ D) = t ∧ mR ts (refB ts t ++ D) = D := by
  obtain ⟨i, hi, he, hg⟩ := has_at h
  obtain ⟨h1, h2⟩ := p_app i D (by omega)
  have e : refB ts t = vput i := by unfold refB; rw [he, Int.toNat_natCast]
  unfold mN mR
  rw [e, h1, h2, if_neg (by omega), if_neg (by omega), Int.toNat_natCast, hg]
  exact ⟨rfl, rfl⟩
theorem aF_app (ts : List ByteArray) (hl : ts.length ≤ 100000) (l : List At) : ∀ (D : List Int) (es : List At), (∀ a ∈ l, 0 ≤ hasIx ts a.name ∧ 0 ≤ hasIx ts a.value) → aF ts l.length (l.flatMap (attB ts) ++ D) es = (D, es ++ l) := by
  induction l with
  | nil =>
    intro D es _
    simp [aF]
  | cons a l ih =>
    intro D es hg
    obtain ⟨g1, g2⟩ := hg a (by simp)
    obtain ⟨h1, h2⟩ := m_app ts a.name (refB ts a.value ++ (l.flatMap (attB ts) ++ D)) g1 hl
    obtain ⟨h3, h4⟩ := m_app ts a.value (l.flatMap (attB ts) ++ D) g2 hl
    have e : (a :: l).flatMap (attB ts) ++ D = refB ts a.name ++ (refB ts a.value ++ (l.flatMap (attB ts) ++ D)) := by rw [List.flatMap_cons]; simp [attB]
    rw [e, List.length_cons]
    unfold aF
    rw [h1, h2, h3, h4, ih D _ (fun x hx => hg x (by simp [hx]))]
    simp
theorem i_app (ts : List ByteArray) (hl : ts.length ≤ 100000) (x : It) (D : List Int) (h : itemCode x = 0) (hh : HasIt ts x) : iN ts (itB ts x ++ D) = x ∧ iR ts (itB ts x ++ D) = D := by
  have hd := item_depth h
  have hdn : ((x.depth.toNat : Nat) : Int) = x.depth := by omega
  cases he : x.name.toList.isEmpty
  · obtain ⟨hx, hf⟩ := good_elem h he
    obtain ⟨g1, g2, g3⟩ := hasIt_elem he hh
    have e : itB ts x ++ D = vput x.depth.toNat ++ (vput 1 ++ (refB ts x.space ++ (refB ts x.name ++ (vput x.attrs.length ++ (x.attrs.flatMap (attB ts) ++ D))))) := by
      rw [itB_elem he, show vput 1 = [1] by rw [vput_small (by omega)]; rfl]
      simp
    obtain ⟨n1, n2⟩ := p_app x.depth.toNat (vput 1 ++ (refB ts x.space ++ (refB ts x.name ++ (vput x.attrs.length ++ (x.attrs.flatMap (attB ts) ++ D))))) (by omega)
    obtain ⟨n3, n4⟩ := p_app 1 (refB ts x.space ++ (refB ts x.name ++ (vput x.attrs.length ++ (x.attrs.flatMap (attB ts) ++ D)))) (by omega)
    obtain ⟨t1, t2⟩ := m_app ts x.space (refB ts x.name ++ (vput x.attrs.length ++ (x.attrs.flatMap (attB ts) ++ D))) g1 hl
    obtain ⟨t3, t4⟩ := m_app ts x.name (vput x.attrs.length ++ (x.attrs.flatMap (attB ts) ++ D)) g2 hl
    obtain ⟨n5, n6⟩ := c_app x.attrs.length (x.attrs.flatMap (attB ts) ++ D) (by omega) (by have := attsB_ge ts x.attrs; rw [List.length_append]; omega)
    have ha := aF_app ts hl x.attrs D [] (fun a hm => by
      obtain ⟨i, hi, rfl⟩ := List.getElem_of_mem hm
      have := g3 i hi
      rwa [List.getD_eq_getElem?_getD, List.getElem?_eq_getElem hi] at this)
    rw [List.nil_append] at ha
    unfold iN iR aA
    rw [e, n1, n2, n3, n4, t1, t2, t3, t4, n5, n6, Int.toNat_natCast, ha, hdn]
    rw [if_neg (by omega), if_pos (by rfl), if_neg (by omega), if_pos (by rfl)]
    exact ⟨hx.symm, rfl⟩
  · have hx := good_text h he
    have g1 := hasIt_text he hh
    have e : itB ts x ++ D = vput x.depth.toNat ++ (vput 0 ++ (refB ts x.text ++ D)) := by
      rw [itB_text he, show vput 0 = [0] by rw [vput_small (by omega)]; rfl]
      simp
    obtain ⟨n1, n2⟩ := p_app x.depth.toNat (vput 0 ++ (refB ts x.text ++ D)) (by omega)
    obtain ⟨n3, n4⟩ := p_app 0 (refB ts x.text ++ D) (by omega)
    obtain ⟨t1, t2⟩ := m_app ts x.text D g1 hl
    unfold iN iR
    rw [e, n1, n2, n3, n4, t1, t2, hdn]
    rw [if_pos (by rfl), if_pos (by rfl)]
    exact ⟨hx.symm, rfl⟩
theorem iF_app (ts : List ByteArray) (hl : ts.length ≤ 100000) (l : List It) : ∀ (D : List Int) (es : List It), (∀ x ∈ l, itemCode x = 0 ∧ HasIt ts x) → iF ts l.length (l.flatMap (itB ts) ++ D) es = (D, es ++ l) := by
  induction l with
  | nil =>
    intro D es _
    simp [iF]
  | cons x l ih =>
    intro D es hg
    obtain ⟨g1, g2⟩ := hg x (by simp)
    obtain ⟨h1, h2⟩ := i_app ts hl x (l.flatMap (itB ts) ++ D) g1 g2
    rw [List.flatMap_cons, List.append_assoc, List.length_cons]
    unfold iF
    rw [h1, h2, ih D _ (fun x hx => hg x (by simp [hx]))]
    simp
theorem addT_new {ts : List ByteArray} {t : ByteArray} (h : t ∉ ts) : addT ts t = ts ++ [t] := hasIx_neg (fun hh => h (has_iff.1 hh))
theorem sF_app (L : List ByteArray) : ∀ (D : List Int) (ts : List ByteArray), (∀ t ∈ L, textFault t.data.toList = 0) → (ts ++ L).Nodup → sF L.length (L.flatMap strB ++ D) ts = (D, ts ++ L) := by
  induction L with
  | nil =>
    intro D ts _ _
    simp [sF]
  | cons t L ih =>
    intro D ts hg hn
    obtain ⟨h1, h2⟩ := t_app t (L.flatMap strB ++ D) (hg t (by simp))
    have hnt : t ∉ ts := by
      intro hm
      rw [List.nodup_append] at hn
      exact hn.2.2 t hm t (by simp) rfl
    rw [List.flatMap_cons, List.append_assoc, List.length_cons]
    unfold sF
    rw [h1, h2, addT_new hnt, ih D _ (fun x hx => hg x (by simp [hx])) (by rw [List.append_assoc]; exact hn)]
    simp
theorem addT_nodup {ts : List ByteArray} (t : ByteArray) (h : ts.Nodup) : (addT ts t).Nodup := by
  by_cases hm : t ∈ ts
  · rw [hasIx_pos (has_iff.2 hm)]
    exact h
  · rw [addT_new hm, List.nodup_append]
    refine ⟨h, by simp, ?_⟩
    rintro a ha b hb rfl
    simp only [List.mem_cons, List.not_mem_nil, or_false] at hb
    subst hb
    exact hm ha
theorem strsAts_nodup (l : List At) : ∀ o : List ByteArray, o.Nodup → (strsAts o l).Nodup := by
  induction l with
  | nil => intro o h; exact h
  | cons a l ih =>
    intro o h
    have := ih _ (addT_nodup a.value (addT_nodup a.name h))
    unfold strsAts at this ⊢
    rw [List.foldl_cons]
    exact this
theorem strsIt_nodup (x : It) {o : List ByteArray} (h : o.Nodup) : (strsIt o x).Nodup := by
  unfold strsIt
  split
  · exact addT_nodup _ h
  · exact strsAts_nodup _ _ (addT_nodup _ (addT_nodup _ h))
theorem strsOf_nodup (l : List It) : (strsOf l).Nodup := by
  have key : ∀ (l : List It) (o : List ByteArray), o.Nodup → (l.foldl strsIt o).Nodup := by
    intro l
    induction l with
    | nil => intro o h; exact h
    | cons x l ih => intro o h; rw [List.foldl_cons]; exact ih _ (strsIt_nodup x h)
  exact key l [] List.nodup_nil
/-- the frame of a tree is read as it was -/
theorem p_pack {l : List It} (h : treeCode l = 0) : pI (packL l) = l := by
  obtain ⟨h40, hg⟩ := goodTree h
  have hc := goodCount h40 hg
  have e : packL l = vput (strsOf l).length ++ ((strsOf l).flatMap strB ++ (vput l.length ++ (l.flatMap (itB (strsOf l)) ++ []))) := by unfold packL; simp
  obtain ⟨n1, n2⟩ := c_app (strsOf l).length ((strsOf l).flatMap strB ++ (vput l.length ++ (l.flatMap (itB (strsOf l)) ++ []))) (by omega) (by have := strsB_ge (strsOf l); rw [List.length_append]; omega)
  obtain ⟨n3, n4⟩ := c_app l.length (l.flatMap (itB (strsOf l)) ++ []) (by omega) (by have := itsB_ge (strsOf l) l; rw [List.length_append]; omega)
  have hS : pS (packL l) = (vput l.length ++ (l.flatMap (itB (strsOf l)) ++ []), strsOf l) := by
    unfold pS
    rw [e, n1, n2, Int.toNat_natCast, sF_app (strsOf l) _ [] (tree_faults h) (by rw [List.nil_append]; exact strsOf_nodup l)]
    simp
  unfold pI
  rw [hS]
  simp only
  rw [n3, n4, Int.toNat_natCast, iF_app (strsOf l) (by omega) l [] [] (fun x hx => ⟨treeIts h x hx, tree_has x hx⟩)]
  simp
/-- what the two readers tell is the same -/
theorem p_un {xs : List Int} (h : unOk xs) : pI xs = (unI xs).2 := by
  have h1 := p_pack h.2.1
  rwa [h.2.2] at h1
theorem p_ok {xs : List Int} : unOk xs ↔ treeCode (pI xs) = 0 ∧ packL (pI xs) = xs := by
  constructor
  · intro h
    rw [p_un h]
    exact h.2
  · rintro ⟨h1, h2⟩
    have := un_ok h1
    rwa [h2] at this
end Go.Proofs.YtbfjhjkllaceaaaGreatDoor

/- What a reading of a number hands back. -/
namespace Go.Proofs.YtbfjhjkllaceaaaGreatDoor
open Go.ChangeShapes Go.WideShapes Go.ChangeAt Go.RowKit
set_option linter.unusedVariables false

/-- a struct of three integers is handed back -/
def Res3 (w : World) (x y z : Int) (e : Ending) (w' : World) : Prop :=
  e = .returned (.agg #[.int .i64 x, .int .i64 y, .int .i64 z]) ∧ Below w.heap.size w w'
def vcode (xs : List Int) : Int := if vreadOk xs then 0 else 5
end Go.Proofs.YtbfjhjkllaceaaaGreatDoor

/- errors.Is where the target is the sentinel, and what is asked is nil or the sentinel; readCode. -/
namespace Go.Proofs.YtbfjhjkllaceaaaGreatDoor
open Go.RowKit Go.Extern.Stop Go.Stop Go.Extern
set_option linter.unusedVariables false

theorem isTypeOf (v : Value) (w : World) : (Extern.ReflectliteType.typeOf #[.iface 171 v]).run Tryz.prog w = .ok (.iface 147 (.agg #[.pointer (some ⟨3, 171, none⟩)])) w := by kernel_rfl
def cmpEntry : Array Value → Sem Value := Extern.ReflectliteType.method fun t => do Extern.Rtype.noPackHeld "Comparable" t; pure (.bool (← typeInfo t).comparable)
theorem isComparable (w : World) : (cmpEntry #[.agg #[.pointer (some ⟨3, 171, none⟩)]]).run Tryz.prog w = .ok (.bool true) w := by kernel_rfl
theorem isMethodComparable (v : Value) (w : World) : (Go.method 309 147 v "Comparable").run Tryz.prog w = .ok (148, v) w := by kernel_rfl
theorem isComp : (Tryz.prog.info? 171).map (·.comparable) = some true := by kernel_rfl
theorem isSize : (Tryz.prog.info? 197).map (·.size) = some 1 := by kernel_rfl

/-- an error that is one of errors.New's -/
def errAt (a : Addr) : Value := .iface 171 (.pointer (some a))

/-- errors.Is(x, x), x a pointer to an errors.errorString. -/
theorem is_same (a : Addr) (w : World) :
    Calls Tryz.prog 107 #[.iface 171 (.pointer (some a)), .iface 171 (.pointer (some a))] w fun e w' => e = .returned (.bool true) ∧ w = w' := by
  obtain ⟨i, hi, hcmp⟩ := Option.map_eq_some_iff.1 isComp
  obtain ⟨j, hj, hjs⟩ := Option.map_eq_some_iff.1 isSize
  have h8 := @run_callFunc_extern Tryz.prog 110 _ Extern.ReflectliteType.typeOf Tryz.func110 (by kernel_rfl) (by kernel_rfl) (by kernel_rfl) (by kernel_rfl)
  have h32 := @run_callFunc_extern Tryz.prog 148 _ cmpEntry Tryz.func148 (by kernel_rfl) (by kernel_rfl) (by kernel_rfl) (by kernel_rfl)
  have tT := isTypeOf
  have cT := isComparable
  have mR := isMethodComparable
  have heq := run_eql_iface_ptr_same (P := Tryz.prog) w a Tryz.underlying126 Tryz.underlying171 hi hcmp hj
  go_enter Tryz.func107, Tryz.ntmps107
  go_wp2
  refine wp_loop_rounds 1 ?_
  rw [rounds_succ]
  go_wp2
  go_ret
  exact ⟨rfl, rfl⟩

/-- errors.Is(nil, x). -/
theorem is_nil (b : Addr) (w : World) :
    Calls Tryz.prog 107 #[.nilIface, .iface 171 (.pointer (some b))] w fun e w' => e = .returned (.bool false) ∧ w = w' := by
  have hn := run_eql_iface_nil_left (P := Tryz.prog) w 171 (.pointer (some b)) Tryz.underlying126
  go_enter Tryz.func107, Tryz.ntmps107
  go_wp2
  go_ret
  exact ⟨rfl, rfl⟩

/-- the package's sentinel: its variable holds this error -/
structure Sent (w : World) (a : Addr) : Prop where
  lt : 0 < w.heap.size
  cell : w.cell? ⟨0, 0, none⟩ = some (.iface 171 (.pointer (some a)))
theorem Sent.below {w w' : World} {a : Addr} {B : Nat} (h : Sent w a) (hb : Below B w w') (hB : 0 < B) : Sent w' a :=
  ⟨Nat.lt_of_lt_of_le h.lt hb.size, (hb.cell (p := ⟨0, 0, none⟩) hB).trans h.cell⟩
theorem Sent.kept {w w' : World} {a : Addr} (h : Sent w a) (hb : Below w.heap.size w w') : Sent w' a := h.below hb h.lt
theorem Sent.alloc {w : World} {a : Addr} (h : Sent w a) (o : Obj) : Sent (w.alloc o) a := h.kept (below1 w o)

theorem readCode_nil (a : Addr) (w : World) (h : Sent w a) :
    Calls Tryz.prog 100 #[.nilIface] w fun e w' => e = .returned (.int .i64 0) ∧ w = w' := by
  have hc := h.cell
  have hl := h.lt
  clear h
  go_enter Tryz.func100, Tryz.ntmps100
  go_wp2_with (go_at_call 107; refine (is_nil _ _).mono ?_; rintro e w' ⟨rfl, rfl⟩)
  go_ret
  exact ⟨rfl, rfl⟩
theorem readCode_err (a : Addr) (w : World) (h : Sent w a) :
    Calls Tryz.prog 100 #[.iface 171 (.pointer (some a))] w fun e w' => e = .returned (.int .i64 5) ∧ w = w' := by
  have hc := h.cell
  have hl := h.lt
  clear h
  go_enter Tryz.func100, Tryz.ntmps100
  go_wp2_with (go_at_call 107; refine (is_same _ _).mono ?_; rintro e w' ⟨rfl, rfl⟩)
  go_ret
  exact ⟨rfl, rfl⟩
end Go.Proofs.YtbfjhjkllaceaaaGreatDoor

/- Contracts of varAhead and the program's ReadVar. -/
namespace Go.Proofs.YtbfjhjkllaceaaaGreatDoor
open Go.ChangeShapes Go.WideShapes Go.ChangeAt Go.RowKit
set_option linter.unusedVariables false

/-- the error of a reading -/
def errOf (a : Addr) (ok : Bool) : Value := if ok then .nilIface else .iface 171 (.pointer (some a))
/-- what varAhead answers -/
def AheadRes (xs : List Int) (sa : Addr) (w : World) (e : Ending) (w' : World) : Prop :=
  e = .returned (.tuple #[.int .i64 (vreadN xs), .int .i64 (vreadK xs), errOf sa (vreadOk xs)]) ∧ Below w.heap.size w w'

theorem or_join (s : Nat) (a y : Int) (h0 : 0 ≤ a) (h1 : a < 2 ^ s) (hy : 0 ≤ y) (hb : a + y * 2 ^ s < 9223372036854775808) : bits BinOp.or IntKind.i64 a (y * 2 ^ s) = a + y * 2 ^ s := by
  obtain ⟨A, rfl⟩ := Int.eq_ofNat_of_zero_le h0
  obtain ⟨Y, rfl⟩ := Int.eq_ofNat_of_zero_le hy
  have hc : ((Y : Int) * 2 ^ s) = ((2 ^ s * Y : Nat) : Int) := by push_cast; rw [Int.mul_comm]
  have h1' : A < 2 ^ s := by
    have : ((A : Nat) : Int) < ((2 ^ s : Nat) : Int) := by push_cast; exact h1
    omega
  rw [hc] at hb ⊢
  generalize hP : 2 ^ s * Y = Q at *
  have hk : (BitVec.ofInt 64 (A : Int) ||| BitVec.ofInt 64 (Q : Int)).toNat = Q + A := by
    rw [BitVec.toNat_or, BitVec.toNat_ofInt, BitVec.toNat_ofInt]
    have e1 : ((A : Int) % ((2 ^ 64 : Nat) : Int)).toNat = A := by omega
    have e2 : ((Q : Int) % ((2 ^ 64 : Nat) : Int)).toNat = Q := by omega
    rw [e1, e2, Nat.or_comm, ← hP, Nat.two_pow_add_eq_or_of_lt h1']
  show IntKind.i64.wrap (((BitVec.ofInt 64 (A : Int) ||| BitVec.ofInt 64 (Q : Int)).toNat : Nat) : Int) = _
  rw [hk, IntKind.wrap_i64]
  omega
/-- one more group -/
theorem or_group (l : List Int) (x : Int) (j : Nat) (hl : l.length = j) (h8 : j ≤ 8) : bits BinOp.or IntKind.i64 (vval l) (wrap64 (x % 128 * 2 ^ (7 * j))) = vval (l ++ [x]) := by
  have e : (2 : Int) ^ (7 * j) = 128 ^ j := by rw [Int.pow_mul]; rfl
  have h0 := vval_nonneg l
  have h1 := vval_lt l
  have h2 := vval_le9 (l ++ [x]) (by simp; omega)
  rw [vval_snoc, hl] at h2
  rw [hl] at h1
  rw [vval_snoc, hl, e]
  have hm : 0 ≤ x % 128 := by omega
  have hmm : 0 ≤ x % 128 * 128 ^ j := Int.mul_nonneg hm (Int.pow_nonneg (by decide))
  have hw : wrap64 (x % 128 * 128 ^ j) = x % 128 * 128 ^ j := by unfold wrap64; omega
  rw [hw, ← e]
  rw [← e] at h1 h2 hmm
  exact or_join (7 * j) _ _ h0 h1 hm (by omega)

theorem ret3 {a b c d e f : Value} (h : a = d) (k : b = e) (l : c = f) : Ending.returned (.tuple #[a, b, c]) = .returned (.tuple #[d, e, f]) := by rw [h, k, l]
set_option maxRecDepth 100000 in
set_option maxHeartbeats 3200000 in
theorem varAhead_at (b o c n : Nat) (xs : List Int) (w : World) (sa : Addr) (hs : Sent w sa) (hn : n = xs.length) (hc : n ≤ c) (hm : c ≤ maxLen) (hlt : b < w.heap.size) (hx : ∀ i, i < n → w.cell? ⟨b, o + i, none⟩ = some (.int .u8 (xs.getD i 0)))
    (hby : ∀ i, 0 ≤ xs.getD i 0 ∧ xs.getD i 0 ≤ 255) :
    Calls Tryz.prog 106 #[.slice (some ⟨b, o, none⟩) n c] w (AheadRes xs sa w) := by
  have HX := Lib.hid hx
  have HY := Lib.hid hby
  have HN := Lib.hid hn
  have hsc := hs.cell
  have hsl := hs.lt
  clear hx hby hn hs
  unfold maxLen at hm
  go_enter Tryz.func106, Tryz.ntmps106
  go_wp2
  go_loop [2, 13] (fun m i => ∃ j : Nat, j ≤ n ∧ j ≤ 9 ∧ i = .int .i64 j ∧ m = .int .i64 (vval (xs.take j)) ∧ Hid (∀ i, i < j → 128 ≤ xs.getD i 0)) (fun _ i => n - (intOf i).toNat)
  case atStart => exact ⟨0, Nat.zero_le _, by omega, rfl, rfl, Lib.hid (fun i hi => by omega)⟩
  case round =>
    obtain ⟨j, hj, h9, rfl, rfl, H128⟩ := hrel
    by_cases hjm : j < n ∧ j < 9
    · obtain ⟨hjn, hj9⟩ := hjm
      have hcj := HX.out j hjn
      have hbj := HY.out j
      have hor := or_group (xs.take j) (xs.getD j 0) j (by have := HN.out; simp; omega) (by omega)
      rw [← take_snoc_getD xs j (by have := HN.out; omega)] at hor
      have HOR := Lib.hid hor
      have hv0 := vval_nonneg (xs.take j)
      have HJN : Hid (j < xs.length) := Lib.hid (by have := HN.out; omega)
      clear hor
      by_cases hz : 128 ≤ xs.getD j 0
      · have H128' : Hid (∀ i, i < j + 1 → 128 ≤ xs.getD i 0) := Lib.hid (fun i hi => by
          by_cases h : i < j
          · exact H128.out i h
          · obtain rfl : i = j := by omega
            exact hz)
        generalize xs.getD j 0 = x at hcj hbj hz HOR
        generalize vval (xs.take j) = m at hv0 HOR
        go_wp2
        go_round
        case rel => exact ⟨j + 1, by omega, by omega, by go_num, by rw [HOR.out], H128'⟩
        case measure => simp [intOf]; omega
      · have hlead := lead_is xs j H128.out (by have := HN.out; omega) h9 (fun _ _ => by omega)
        have HLD := Lib.hid hlead
        clear hlead
        by_cases hq : j = 0 ∨ xs.getD j 0 ≠ 0
        · have HOK : Hid (vreadOk xs = true) := Lib.hid (by unfold vreadOk; rw [decide_eq_true_iff, HLD.out]; exact ⟨HJN.out, hj9, hq⟩)
          rcases hq with hq | hq
          · have hj0 : (j : Int) ≤ 0 := by omega
            clear hq
            generalize xs.getD j 0 = x at hcj hbj hz HOR
            generalize vval (xs.take j) = m at hv0 HOR
            cases hx0 : x == 0
            all_goals
              go_wp2
              go_ret3
              obtain ⟨e1, e2⟩ := read_some HLD.out HOK.out
              exact ⟨ret3 (int_eq (by rw [e1]; exact HOR.out)) (int_eq (by rw [e2]; omega)) (by rw [HOK.out]; rfl), Below.refl _ _⟩
          · have hq2 : (xs.getD j 0 == 0) = false := by rw [beq_eq_false_iff_ne]; exact hq
            clear hq
            generalize xs.getD j 0 = x at hcj hbj hz HOR hq2
            generalize vval (xs.take j) = m at hv0 HOR
            go_wp2
            go_ret3
            obtain ⟨e1, e2⟩ := read_some HLD.out HOK.out
            exact ⟨ret3 (int_eq (by rw [e1]; exact HOR.out)) (int_eq (by rw [e2]; omega)) (by rw [HOK.out]; rfl), Below.refl _ _⟩
        · have HOK : Hid (vreadOk xs = false) := Lib.hid (by unfold vreadOk; rw [decide_eq_false_iff_not, HLD.out]; exact fun h => hq h.2.2)
          have hj1 : 0 < (j : Int) := by omega
          have hx0 : xs.getD j 0 = 0 := by
            by_cases h : xs.getD j 0 = 0
            · exact h
            · exact absurd (.inr h) hq
          rw [hx0] at hcj
          clear hx0 hq hz hbj HOR
          generalize vval (xs.take j) = m at hv0
          go_wp2
          go_quiet (fail)
          go_wp2
          go_ret3
          obtain ⟨e1, e2⟩ := read_none HOK.out
          exact ⟨ret3 (int_eq (by rw [e1])) (int_eq (by rw [e2]; rfl)) (by rw [HOK.out]; rfl), below_drewN (Below.refl _ _) _⟩
    · have HL : Hid (vreadOk xs = false) := Lib.hid (by
        have := lead_is xs j H128.out (by have := HN.out; omega) h9 (fun h1 h2 => absurd ⟨by have := HN.out; omega, h2⟩ hjm)
        have h2 := HN.out
        unfold vreadOk
        rw [decide_eq_false_iff_not, this]
        omega)
      have hmin : ¬ ((j : Int) < max (min (n : Int) 9) 0) := by omega
      generalize vval (xs.take j) = m
      go_wp2
      go_quiet (fail)
      go_wp2
      go_ret3
      obtain ⟨e1, e2⟩ := read_none HL.out
      exact ⟨ret3 (int_eq (by rw [e1])) (int_eq (by rw [e2]; rfl)) (by rw [HL.out]; rfl), below_drewN (Below.refl _ _) _⟩

set_option maxHeartbeats 800000 in
theorem varAhead_nil (w : World) (sa : Addr) (hs : Sent w sa) :
    Calls Tryz.prog 106 #[.slice none 0 0] w (AheadRes [] sa w) := by
  have hsc := hs.cell
  have hsl := hs.lt
  have HL : Hid (vreadOk [] = false) := Lib.hid (by decide)
  clear hs
  go_enter Tryz.func106, Tryz.ntmps106
  go_wp2
  go_loop [13] (fun i => i = .int .i64 0) (fun i => 0)
  case atStart => rfl
  case round =>
    obtain rfl := hrel
    go_wp2
    go_quiet (fail)
    go_wp2
    go_ret3
    obtain ⟨e1, e2⟩ := read_none HL.out
    exact ⟨ret3 (int_eq (by rw [e1])) (int_eq (by rw [e2]; rfl)) (by rw [HL.out]; rfl), below_drewN (Below.refl _ _) _⟩

theorem varAhead_any (a : Option Addr) (n c : Nat) (xs : List Int) (w : World) (sa : Addr) (hs : Sent w sa) (hn : n = xs.length) (h : Row w .u8 (.slice a n c) xs) (hby : ∀ i, 0 ≤ xs.getD i 0 ∧ xs.getD i 0 ≤ 255) :
    Calls Tryz.prog 106 #[.slice a n c] w (AheadRes xs sa w) := by
  rcases h with ⟨hv, h0⟩ | ⟨b, o, cap, hv, h1, h2, h3, h4⟩
  · simp only [Value.slice.injEq] at hv
    obtain ⟨rfl, rfl, rfl⟩ := hv
    subst h0
    exact varAhead_nil w sa hs
  · simp only [Value.slice.injEq] at hv
    obtain ⟨rfl, rfl, rfl⟩ := hv
    exact varAhead_at b o c xs.length xs w sa hs rfl h1 h2 h3 h4 hby

set_option maxHeartbeats 800000 in
theorem implReadVar_any (a : Option Addr) (n c : Nat) (xs : List Int) (w : World) (sa : Addr) (hs : Sent w sa) (hn : n = xs.length) (h : Row w .u8 (.slice a n c) xs) (hby : ∀ i, 0 ≤ xs.getD i 0 ∧ xs.getD i 0 ≤ 255) :
    Calls Tryz.prog 98 #[.slice a n c] w (Res3 w (vcode xs) (vreadN xs) (vreadK xs)) := by
  have K := Lib.hid (fun (W : World) (hW : Below w.heap.size w W) => varAhead_any a n c xs W sa (hs.kept hW) hn (h.below hW) hby)
  have HS := Lib.hid hs
  unfold AheadRes errOf at K
  clear hn h hby hs
  cases hk : vreadOk xs
  · have e3 : vcode xs = 5 := by unfold vcode; rw [hk]; rfl
    rw [e3]
    rw [hk] at K
    simp only [Bool.false_eq_true, if_false] at K
    generalize vreadK xs = k at *
    generalize vreadN xs = v at *
    clear e3 hk
    go_enter Tryz.func98, Tryz.ntmps98
    go_wp2_with fail
    refine (K.out _ (below1 _ _)).mono ?_
    rintro e w1 ⟨rfl, hb⟩
    have KR := Lib.hid (readCode_err sa w1 ((HS.out.alloc _).kept hb))
    obtain ⟨hc, hf⟩ := bcell hb
    have hz := hb.size
    simp at hz
    go_wp2_with fail
    refine KR.out.mono ?_
    rintro e w' ⟨rfl, rfl⟩
    go_wp2
    exact bodyPost_ret (v := .agg #[.int .i64 5, .int .i64 v, .int .i64 k]) (by simp [results, Tryz.results98, go_sem, hc]) rfl
      ⟨rfl, ((((below1 w _).trans (hb.mono (by simp))).setCell (by simp) _).setCell (by simp) _).setCell (by simp) _⟩
  · have e3 : vcode xs = 0 := by unfold vcode; rw [hk]; rfl
    rw [e3]
    rw [hk] at K
    simp only [if_true] at K
    generalize vreadK xs = k at *
    generalize vreadN xs = v at *
    clear e3 hk
    go_enter Tryz.func98, Tryz.ntmps98
    go_wp2_with fail
    refine (K.out _ (below1 _ _)).mono ?_
    rintro e w1 ⟨rfl, hb⟩
    have KR := Lib.hid (readCode_nil sa w1 ((HS.out.alloc _).kept hb))
    obtain ⟨hc, hf⟩ := bcell hb
    have hz := hb.size
    simp at hz
    go_wp2_with fail
    refine KR.out.mono ?_
    rintro e w' ⟨rfl, rfl⟩
    go_wp2
    exact bodyPost_ret (v := .agg #[.int .i64 0, .int .i64 v, .int .i64 k]) (by simp [results, Tryz.results98, go_sem, hc]) rfl
      ⟨rfl, ((((below1 w _).trans (hb.mono (by simp))).setCell (by simp) _).setCell (by simp) _).setCell (by simp) _⟩
end Go.Proofs.YtbfjhjkllaceaaaGreatDoor

/- Contracts of stringAhead, l2Text and the two ReadStrings. -/
namespace Go.Proofs.YtbfjhjkllaceaaaGreatDoor
open Go.ChangeShapes Go.WideShapes Go.ChangeAt Go.RowKit
set_option linter.unusedVariables false

/-- what stringAhead answers -/
def AheadStr (xs : List Int) (sa : Addr) (w : World) (e : Ending) (w' : World) : Prop :=
  e = .returned (.tuple #[.string (stxt xs), .int .i64 (ssz xs), errOf sa (sOk xs)]) ∧ Below w.heap.size w w'
set_option maxRecDepth 100000 in
set_option maxHeartbeats 1600000 in
theorem stringAhead_bad (a : Option Addr) (n c : Nat) (xs : List Int) (w : World) (sa : Addr) (hs : Sent w sa) (hn : n = xs.length) (h : Row w .u8 (.slice a n c) xs) (hby : ∀ i, 0 ≤ xs.getD i 0 ∧ xs.getD i 0 ≤ 255) (hk : vreadOk xs = false) :
    Calls Tryz.prog 99 #[.slice a n c] w (AheadStr xs sa w) := by
  have K := Lib.hid (varAhead_any a n c xs w sa hs hn h hby)
  have HS := Lib.hid hs
  have HN : Hid (sOk xs = false) := Lib.hid (by unfold sOk; rw [hk]; rfl)
  unfold AheadRes errOf at K
  rw [hk] at K
  simp only [Bool.false_eq_true, if_false] at K
  generalize vreadK xs = k at K
  generalize vreadN xs = v at K
  clear hn h hby hs hk
  go_enter Tryz.func99, Tryz.ntmps99
  go_wp2_with fail
  refine K.out.mono ?_
  rintro e w1 ⟨rfl, hb⟩
  have hs1 := HS.out.kept hb
  have hsc := hs1.cell
  have hsl := hs1.lt
  have HB := Lib.hid hb
  clear hs1 hb
  go_wp2_with fail
  refine (is_same _ _).mono ?_
  rintro e w' ⟨rfl, rfl⟩
  go_wp2
  go_ret3
  obtain ⟨e1, e2⟩ := s_none HN.out
  exact ⟨ret3 (str_eq (by rw [e1])) (int_eq (by rw [e2])) (by rw [HN.out]; rfl), HB.out⟩

set_option maxRecDepth 100000 in
set_option maxHeartbeats 3200000 in
theorem stringAhead_ok (b o n c : Nat) (xs : List Int) (w : World) (sa : Addr) (hs : Sent w sa) (hT : Tabs w) (hn : n = xs.length) (h : Row w .u8 (.slice (some ⟨b, o, none⟩) n c) xs) (hby : ∀ i, 0 ≤ xs.getD i 0 ∧ xs.getD i 0 ≤ 255) (hk : vreadOk xs = true) :
    Calls Tryz.prog 99 #[.slice (some ⟨b, o, none⟩) n c] w (AheadStr xs sa w) := by
  have K := Lib.hid (varAhead_any (some ⟨b, o, none⟩) n c xs w sa hs hn h hby)
  have HS := Lib.hid hs
  have HT := Lib.hid hT
  have HR := Lib.hid h
  have hkn := (vreadK_le xs).1
  rw [← hn] at hkn
  have hk9 := (vreadK_le xs).2
  have hv0 := (vreadN_bd xs).1
  have hv1 := (vreadN_bd xs).2
  have hk1 : 1 ≤ vreadK xs := by unfold vreadK; rw [hk]; simp
  have hcm : n ≤ c ∧ c ≤ maxLen ∧ b < w.heap.size := by
    rcases h with ⟨hv, _⟩ | ⟨b', o', cap, hv, h1, h2, h3, h4⟩
    · cases hv
    · simp only [Value.slice.injEq, Option.some.injEq, Addr.mk.injEq] at hv
      obtain ⟨⟨rfl, rfl, _⟩, hn', rfl⟩ := hv
      exact ⟨by omega, h2, h3⟩
  obtain ⟨hnc, hcm, hbw⟩ := hcm
  have HCM := Lib.hid hcm
  unfold maxLen at hcm
  unfold AheadRes errOf at K
  rw [hk] at K
  simp only [if_true] at K
  have HBD := Lib.hid (sbody_size xs)
  rw [← hn] at HBD
  have HOK : Hid (sOk xs = (decide (vreadN xs ≤ (n : Int) - (vreadK xs : Int)) && decide (textFault (sbody xs).data.toList = 0))) := Lib.hid (by unfold sOk; rw [hk, hn]; simp)
  have HSB : Hid (sbody xs = strOfNums ((xs.drop (vreadK xs)).take (vreadN xs).toNat)) := Lib.hid rfl
  have HSOME := Lib.hid (s_some (xs := xs))
  clear hn h hby hs hk hT
  generalize vreadK xs = k at *
  generalize vreadN xs = v at *
  obtain ⟨N, rfl⟩ : ∃ N : Nat, v = N := ⟨v.toNat, by omega⟩
  rw [Int.toNat_natCast] at HSB
  have HV1 := Lib.hid hv1
  clear hv1 hv0
  by_cases hlen : (N : Int) ≤ (n : Int) - (k : Int)
  · have hNn : N ≤ n := by omega
    have hkN : k + N ≤ n := by omega
    have KT := Lib.hid (fun (W : World) (hW : Below w.heap.size w W) => implTextFault_any (sbody xs) (by have := HBD.out hlen; have := HCM.out; omega) W (tabs_kept HT.out hW))
    have HCV : Hid (∀ W, Below w.heap.size w W → (convert 22 9 (.slice (some ⟨b, o + k, none⟩) N (c - k))).run Tryz.prog W = .ok (.string (sbody xs)) W) := Lib.hid (fun W hW => by
      rw [HSB.out]
      exact conv_row (P := Tryz.prog) W Tryz.underlying22 Tryz.underlying5 Tryz.underlying9 ((HR.out.below hW).piece k N (by omega)))
    rw [decide_eq_true hlen, Bool.true_and] at HOK
    generalize hTX : sbody xs = T at *
    have HTX := Lib.hid hTX
    clear hTX
    generalize textFault T.data.toList = t at *
    by_cases hkc : k < c
    · by_cases ht : t = 0
      · subst ht
        rw [decide_eq_true rfl] at HOK
        go_enter Tryz.func99, Tryz.ntmps99
        go_wp2_with fail
        refine K.out.mono ?_
        rintro e w1 ⟨rfl, hb⟩
        have hs1 := HS.out.kept hb
        have hsc := hs1.cell
        have hsl := hs1.lt
        have HB := Lib.hid hb
        clear hs1 hb
        go_wp2_with fail
        refine (is_nil _ _).mono ?_
        rintro e w' ⟨rfl, rfl⟩
        have hcv := HCV.out _ HB.out
        go_wp2_with fail
        refine (KT.out _ HB.out).mono ?_
        rintro e w2 ⟨rfl, hb2⟩
        have hs2 := HS.out.kept (below_then HB.out hb2)
        have hsc := hs2.cell
        have hsl := hs2.lt
        have HB2 := Lib.hid (below_then HB.out hb2)
        clear hs2 hb2
        go_wp2
        go_ret3
        obtain ⟨e1, e2⟩ := HSOME.out HOK.out
        exact ⟨ret3 (str_eq e1.symm) (int_eq (by rw [e2]; first | done | simp)) (by rw [HOK.out]; rfl), HB2.out⟩
      · rw [decide_eq_false ht] at HOK
        have h0 : (t == 0) = false := by simpa using ht
        have h1 : (t != 0) = true := by simpa using ht
        clear ht
        go_enter Tryz.func99, Tryz.ntmps99
        go_wp2_with fail
        refine K.out.mono ?_
        rintro e w1 ⟨rfl, hb⟩
        have hs1 := HS.out.kept hb
        have hsc := hs1.cell
        have hsl := hs1.lt
        have HB := Lib.hid hb
        clear hs1 hb
        go_wp2_with fail
        refine (is_nil _ _).mono ?_
        rintro e w' ⟨rfl, rfl⟩
        have hcv := HCV.out _ HB.out
        go_wp2_with fail
        refine (KT.out _ HB.out).mono ?_
        rintro e w2 ⟨rfl, hb2⟩
        have hs2 := HS.out.kept (below_then HB.out hb2)
        have hsc := hs2.cell
        have hsl := hs2.lt
        have HB2 := Lib.hid (below_then HB.out hb2)
        clear hs2 hb2
        go_wp2
        go_quiet (fail)
        go_wp2
        go_ret3
        obtain ⟨e1, e2⟩ := s_none HOK.out
        exact ⟨ret3 (str_eq (by rw [e1])) (int_eq (by rw [e2])) (by rw [HOK.out]; rfl), below_drewN HB2.out _⟩
    · obtain rfl : c = k := by omega
      obtain rfl : N = 0 := by omega
      have HCV2 : Hid (∀ W, Below w.heap.size w W → (convert 22 9 (.slice (some ⟨b, o, none⟩) 0 0)).run Tryz.prog W = .ok (.string T) W) := Lib.hid (fun W hW => by
        rw [HSB.out]
        exact conv_row (P := Tryz.prog) W Tryz.underlying22 Tryz.underlying5 Tryz.underlying9 (Row.empty (by decide) (Nat.lt_of_lt_of_le hbw hW.size)))
      by_cases ht : t = 0
      · subst ht
        rw [decide_eq_true rfl] at HOK
        go_enter Tryz.func99, Tryz.ntmps99
        go_wp2_with fail
        refine K.out.mono ?_
        rintro e w1 ⟨rfl, hb⟩
        have hs1 := HS.out.kept hb
        have hsc := hs1.cell
        have hsl := hs1.lt
        have HB := Lib.hid hb
        clear hs1 hb
        go_wp2_with fail
        refine (is_nil _ _).mono ?_
        rintro e w' ⟨rfl, rfl⟩
        have hcv := HCV2.out _ HB.out
        go_wp2_with fail
        refine (KT.out _ HB.out).mono ?_
        rintro e w2 ⟨rfl, hb2⟩
        have hs2 := HS.out.kept (below_then HB.out hb2)
        have hsc := hs2.cell
        have hsl := hs2.lt
        have HB2 := Lib.hid (below_then HB.out hb2)
        clear hs2 hb2
        go_wp2
        go_ret3
        obtain ⟨e1, e2⟩ := HSOME.out HOK.out
        exact ⟨ret3 (str_eq e1.symm) (int_eq (by rw [e2]; first | done | simp)) (by rw [HOK.out]; rfl), HB2.out⟩
      · rw [decide_eq_false ht] at HOK
        have h0 : (t == 0) = false := by simpa using ht
        have h1 : (t != 0) = true := by simpa using ht
        clear ht
        go_enter Tryz.func99, Tryz.ntmps99
        go_wp2_with fail
        refine K.out.mono ?_
        rintro e w1 ⟨rfl, hb⟩
        have hs1 := HS.out.kept hb
        have hsc := hs1.cell
        have hsl := hs1.lt
        have HB := Lib.hid hb
        clear hs1 hb
        go_wp2_with fail
        refine (is_nil _ _).mono ?_
        rintro e w' ⟨rfl, rfl⟩
        have hcv := HCV2.out _ HB.out
        go_wp2_with fail
        refine (KT.out _ HB.out).mono ?_
        rintro e w2 ⟨rfl, hb2⟩
        have hs2 := HS.out.kept (below_then HB.out hb2)
        have hsc := hs2.cell
        have hsl := hs2.lt
        have HB2 := Lib.hid (below_then HB.out hb2)
        clear hs2 hb2
        go_wp2
        go_quiet (fail)
        go_wp2
        go_ret3
        obtain ⟨e1, e2⟩ := s_none HOK.out
        exact ⟨ret3 (str_eq (by rw [e1])) (int_eq (by rw [e2])) (by rw [HOK.out]; rfl), below_drewN HB2.out _⟩
  · rw [decide_eq_false hlen, Bool.false_and] at HOK
    have hlen' : (n : Int) - (k : Int) < (N : Int) := by omega
    have hv9 : (N : Int) ≤ 9223372036854775807 := HV1.out
    clear hlen
    go_enter Tryz.func99, Tryz.ntmps99
    go_wp2_with fail
    refine K.out.mono ?_
    rintro e w1 ⟨rfl, hb⟩
    have hs1 := HS.out.kept hb
    have hsc := hs1.cell
    have hsl := hs1.lt
    have HB := Lib.hid hb
    clear hs1 hb
    go_wp2_with fail
    refine (is_nil _ _).mono ?_
    rintro e w' ⟨rfl, rfl⟩
    go_wp2
    go_quiet (fail)
    go_wp2
    go_ret3
    obtain ⟨e1, e2⟩ := s_none HOK.out
    exact ⟨ret3 (str_eq (by rw [e1])) (int_eq (by rw [e2])) (by rw [HOK.out]; rfl), below_drewN HB.out _⟩

end Go.Proofs.YtbfjhjkllaceaaaGreatDoor

/- Contract of the program's ReadString. -/
namespace Go.Proofs.YtbfjhjkllaceaaaGreatDoor
open Go.ChangeShapes Go.WideShapes Go.ChangeAt Go.RowKit
set_option linter.unusedVariables false

theorem stringAhead_any (a : Option Addr) (n c : Nat) (xs : List Int) (w : World) (sa : Addr) (hs : Sent w sa) (hT : Tabs w) (hn : n = xs.length) (h : Row w .u8 (.slice a n c) xs) (hby : ∀ i, 0 ≤ xs.getD i 0 ∧ xs.getD i 0 ≤ 255) :
    Calls Tryz.prog 99 #[.slice a n c] w (AheadStr xs sa w) := by
  cases hk : vreadOk xs
  · exact stringAhead_bad a n c xs w sa hs hn h hby hk
  · obtain ⟨b, o, rfl⟩ := row_some h hk
    exact stringAhead_ok b o n c xs w sa hs hT hn h hby hk
/-- a struct of a code, a text and a number is handed back -/
def ResS (w : World) (x : Int) (s : ByteArray) (z : Int) (e : Ending) (w' : World) : Prop :=
  e = .returned (.agg #[.int .i64 x, .string s, .int .i64 z]) ∧ Below w.heap.size w w'
def scode (xs : List Int) : Int := if sOk xs then 0 else 5
theorem ssz_pos {xs : List Int} (h : sOk xs = true) : 1 ≤ ssz xs := by
  have hk : vreadOk xs = true := by unfold sOk at h; simp at h; exact h.1
  have h1 : 1 ≤ vreadK xs := by unfold vreadK; rw [hk]; simp
  have h0 := (vreadN_bd xs).1
  rw [(s_some h).2]
  omega

set_option maxHeartbeats 800000 in
theorem implReadString_any (a : Option Addr) (n c : Nat) (xs : List Int) (w : World) (sa : Addr) (hs : Sent w sa) (hT : Tabs w) (hn : n = xs.length) (h : Row w .u8 (.slice a n c) xs) (hby : ∀ i, 0 ≤ xs.getD i 0 ∧ xs.getD i 0 ≤ 255) :
    Calls Tryz.prog 87 #[.slice a n c] w (ResS w (scode xs) (stxt xs) (ssz xs)) := by
  have K := Lib.hid (fun (W : World) (hW : Below w.heap.size w W) => stringAhead_any a n c xs W sa (hs.kept hW) (tabs_kept hT hW) hn (h.below hW) hby)
  have HS := Lib.hid hs
  unfold AheadStr errOf at K
  clear hn h hby hs hT
  cases hk : sOk xs
  · have e3 : scode xs = 5 := by unfold scode; rw [hk]; rfl
    rw [e3]
    rw [hk] at K
    simp only [Bool.false_eq_true, if_false] at K
    generalize ssz xs = k at *
    generalize stxt xs = v at *
    clear e3 hk
    go_enter Tryz.func87, Tryz.ntmps87
    go_wp2_with fail
    refine (K.out _ (below1 _ _)).mono ?_
    rintro e w1 ⟨rfl, hb⟩
    have KR := Lib.hid (readCode_err sa w1 ((HS.out.alloc _).kept hb))
    obtain ⟨hc, hf⟩ := bcell hb
    have hz := hb.size
    simp at hz
    go_wp2_with fail
    refine KR.out.mono ?_
    rintro e w' ⟨rfl, rfl⟩
    go_wp2
    exact bodyPost_ret (v := .agg #[.int .i64 5, .string v, .int .i64 k]) (by simp [results, Tryz.results87, go_sem, hc]) rfl
      ⟨rfl, ((((below1 w _).trans (hb.mono (by simp))).setCell (by simp) _).setCell (by simp) _).setCell (by simp) _⟩
  · have e3 : scode xs = 0 := by unfold scode; rw [hk]; rfl
    rw [e3]
    rw [hk] at K
    simp only [if_true] at K
    generalize ssz xs = k at *
    generalize stxt xs = v at *
    clear e3 hk
    go_enter Tryz.func87, Tryz.ntmps87
    go_wp2_with fail
    refine (K.out _ (below1 _ _)).mono ?_
    rintro e w1 ⟨rfl, hb⟩
    have KR := Lib.hid (readCode_nil sa w1 ((HS.out.alloc _).kept hb))
    obtain ⟨hc, hf⟩ := bcell hb
    have hz := hb.size
    simp at hz
    go_wp2_with fail
    refine KR.out.mono ?_
    rintro e w' ⟨rfl, rfl⟩
    go_wp2
    exact bodyPost_ret (v := .agg #[.int .i64 0, .string v, .int .i64 k]) (by simp [results, Tryz.results87, go_sem, hc]) rfl
      ⟨rfl, ((((below1 w _).trans (hb.mono (by simp))).setCell (by simp) _).setCell (by simp) _).setCell (by simp) _⟩
end Go.Proofs.YtbfjhjkllaceaaaGreatDoor
