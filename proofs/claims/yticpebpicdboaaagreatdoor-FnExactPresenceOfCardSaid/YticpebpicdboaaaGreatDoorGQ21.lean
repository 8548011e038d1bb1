/- Presences: what they are, spec.PresenceFault. -/
import Derived.Test.YticpebpicdboaaaGreatDoorGQ17
import Derived.Test.YticpebpicdboaaaGreatDoorGQ20
import Derived.Test.YticpebpicdboaaaGreatDoorGQ19
import Derived.Test.YticpebpicdboaaaGreatDoorGQ15
import Derived.Test.YticpebpicdboaaaGreatDoorGQ16
import Derived.Test.YticpebpicdboaaaGreatDoorGQ1
import Derived.Deep.RegionLaw
import Derived.Deep.RegionHeld3
import Derived.Maps.AppendAt
import Derived.Test.YticpebpicdboaaaGreatDoorGQ4
import Derived.Test.YticpebpicdboaaaGreatDoorGQ14
import Derived.Test.YticpebpicdboaaaGreatDoorGQ3
namespace Go.Proofs.YticpebpicdboaaaGreatDoor
open Go.ChangeShapes Go.WideShapes Go.ChangeAt Go.RowKit
set_option linter.unusedVariables false

/-- the code of its texts -/
def wordsCode (p : Pr) : Int := if textFault p.sender.data.toList ≠ 0 then textFault p.sender.data.toList else if textFault p.goal.data.toList ≠ 0 then textFault p.goal.data.toList else textFault p.status.data.toList
/-- its parts fit its kind -/
def fitsB (k0 s0 p0 k1 st : Bool) : Bool := !((k0 && (s0 || p0)) || (k1 && st))
def fits (p : Pr) : Bool := fitsB (p.kind != 0) (p.shown != 0) (p.prio != 0) (decide (1 < p.kind)) (!p.status.toList.isEmpty)
def presCode (p : Pr) : Int :=
  if (inB p.kind 0 6 && inB p.shown 0 4 && inB p.prio (-128) 127) = false then 3
  else if wordsCode p ≠ 0 then wordsCode p
  else if fits p = false then 1
  else moreCode p.more

set_option maxHeartbeats 1600000 in
theorem l7Texts_any (b : Nat) (p : Pr) (a : Option Addr) (n c : Nat) (w : World) (hs : p.sender.size ≤ 1048576 ∧ p.goal.size ≤ 1048576 ∧ p.status.size ≤ 1048576) (h : PrAt w b p a n c) :
    Calls Tryz.prog 96 #[.pointer (some ⟨b, 0, none⟩)] w fun e w' => e = .returned (.int .i64 (wordsCode p)) ∧ Below w.heap.size w w' := by
  obtain ⟨pk, pf, pt, ps, pu, pp, pm⟩ := p
  unfold wordsCode
  dsimp only at hs ⊢
  obtain ⟨hf, ht, hu⟩ := hs
  have K1 := Lib.hid (fun W => specTextFault_any pf (by omega) W)
  have K2 := Lib.hid (fun W => specTextFault_any pt (by omega) W)
  have K3 := Lib.hid (fun W => specTextFault_any pu (by omega) W)
  have H := Lib.hid h
  have d1 := h.c1
  clear h hf ht hu
  generalize textFault pf.data.toList = f1 at K1 ⊢
  generalize textFault pt.data.toList = f2 at K2 ⊢
  generalize textFault pu.data.toList = f3 at K3 ⊢
  by_cases h1 : f1 = 0
  · subst h1
    simp only [ne_eq, not_true_eq_false, if_false]
    by_cases h2 : f2 = 0
    · subst h2
      simp only [not_true_eq_false, if_false]
      go_enter Tryz.func96, Tryz.ntmps96
      go_wp2_with fail
      refine (K1.out _).mono ?_
      rintro e w1 ⟨rfl, hb1⟩
      have B1 := Lib.hid hb1
      have d2 := (H.out.below hb1).c2
      clear d1 hb1
      go_wp2_with fail
      refine (K2.out _).mono ?_
      rintro e w2 ⟨rfl, hb2⟩
      have B2 := Lib.hid (below_then B1.out hb2)
      have d4 := (H.out.below (below_then B1.out hb2)).c4
      clear d2 hb2
      go_wp2_with fail
      refine (K3.out _).mono ?_
      rintro e w3 ⟨rfl, hb3⟩
      have B3 := Lib.hid (below_then B2.out hb3)
      clear hb3 d4
      go_wp2
      go_ret
      exact ⟨rfl, B3.out⟩
    · have q1 : (f2 != 0) = true := by rw [bne_iff_ne]; exact h2
      have q2 : (f2 == 0) = false := by rw [beq_eq_false_iff_ne]; exact h2
      rw [if_pos h2]
      clear h2
      go_enter Tryz.func96, Tryz.ntmps96
      go_wp2_with fail
      refine (K1.out _).mono ?_
      rintro e w1 ⟨rfl, hb1⟩
      have B1 := Lib.hid hb1
      have d2 := (H.out.below hb1).c2
      clear d1 hb1
      go_wp2_with fail
      refine (K2.out _).mono ?_
      rintro e w2 ⟨rfl, hb2⟩
      have B2 := Lib.hid (below_then B1.out hb2)
      clear d2 hb2
      go_wp2
      go_ret
      exact ⟨rfl, B2.out⟩
  · have q1 : (f1 != 0) = true := by rw [bne_iff_ne]; exact h1
    have q2 : (f1 == 0) = false := by rw [beq_eq_false_iff_ne]; exact h1
    rw [if_pos h1]
    clear h1
    go_enter Tryz.func96, Tryz.ntmps96
    go_wp2_with fail
    refine (K1.out _).mono ?_
    rintro e w1 ⟨rfl, hb1⟩
    have B1 := Lib.hid hb1
    clear d1 hb1
    go_wp2
    go_ret
    exact ⟨rfl, B1.out⟩
end Go.Proofs.YticpebpicdboaaaGreatDoor

/- Plain facts on the tree of a presence; two bare items appended to a row that grows. -/
namespace Go.Proofs.YticpebpicdboaaaGreatDoor
open Go.ChangeShapes Go.WideShapes Go.ChangeAt Go.RowKit
set_option linter.unusedVariables false

/-- the client's space -/
def csT : ByteArray := ⟨#[106, 97, 98, 98, 101, 114, 58, 99, 108, 105, 101, 110, 116]⟩
def prT : ByteArray := ⟨#[112, 114, 101, 115, 101, 110, 99, 101]⟩
def fromT : ByteArray := ⟨#[102, 114, 111, 109]⟩
def toT : ByteArray := ⟨#[116, 111]⟩
def typeT : ByteArray := ⟨#[116, 121, 112, 101]⟩
def showNm : ByteArray := ⟨#[115, 104, 111, 119]⟩
def statusNm : ByteArray := ⟨#[115, 116, 97, 116, 117, 115]⟩
def prioNm : ByteArray := ⟨#[112, 114, 105, 111, 114, 105, 116, 121]⟩
/-- an element with a text in it, if there is one -/
def partL (nm t : ByteArray) : List It := if t.toList.isEmpty then [] else [⟨1, ⟨#[]⟩, csT, nm, []⟩, ⟨2, t, ⟨#[]⟩, ⟨#[]⟩, []⟩]
def prioT (n : Int) : ByteArray := if n = 0 then ⟨#[]⟩ else numT n
def attrs3 (p : Pr) : List At := addAt (addAt (addAt [] fromT p.sender) toT p.goal) typeT (kindW p.kind)
def rootI (p : Pr) : It := ⟨0, ⟨#[]⟩, csT, prT, attrs3 p⟩
def headL (p : Pr) : List It := (([rootI p] ++ partL showNm (showW p.shown)) ++ partL statusNm p.status) ++ partL prioNm (prioT p.prio)
def treeL (p : Pr) : List It := headL p ++ movedTo p.more 0 p.more.length 1
/-- those that say anything -/
def filledL (l : List At) : List At := l.filter fun x => !x.value.toList.isEmpty
theorem filled_snoc (l : List At) (x : At) : filledL (l ++ [x]) = if x.value.toList.isEmpty then filledL l else filledL l ++ [x] := by
  unfold filledL
  rw [List.filter_append]
  cases h : x.value.toList.isEmpty <;> simp [h]
theorem filled_three (p : Pr) : filledL [⟨fromT, p.sender⟩, ⟨toT, p.goal⟩, ⟨typeT, kindW p.kind⟩] = attrs3 p := by
  have e : ([⟨fromT, p.sender⟩, ⟨toT, p.goal⟩, ⟨typeT, kindW p.kind⟩] : List At) = (([] ++ [⟨fromT, p.sender⟩]) ++ [⟨toT, p.goal⟩]) ++ [⟨typeT, kindW p.kind⟩] := rfl
  rw [e, filled_snoc, filled_snoc, filled_snoc]
  rfl
theorem filled_le (l : List At) : (filledL l).length ≤ l.length := List.length_filter_le _ _
theorem partL_len (nm t : ByteArray) : (partL nm t).length ≤ 2 := by unfold partL; split <;> simp
theorem headL_len (p : Pr) : (headL p).length ≤ 7 := by
  have h1 := partL_len showNm (showW p.shown)
  have h2 := partL_len statusNm p.status
  have h3 := partL_len prioNm (prioT p.prio)
  unfold headL
  simp only [List.length_append, List.length_cons, List.length_nil]
  omega
theorem headL_pos (p : Pr) : 1 ≤ (headL p).length := by
  unfold headL
  simp only [List.length_append, List.length_cons, List.length_nil]
  omega

/-- behind an append of two items without attributes -/
theorem GrowIts.two {w w0 w1 : World} {B : Nat} {v v' : Value} {n : Nat} {l : List It} {A : Nat → Option Addr} {N C : Nat → Nat} {x y : It}
    (h : GrowIts w B v n l A N C) (hw : Below w.heap.size w w0) (hx : x.attrs = []) (hy : y.attrs = []) (hB : B ≤ w.heap.size)
    (hr : w1.ownsRow B 77 5 v' (n + 2) (flatI l A N C ++ [.int .i64 x.depth, .string x.text, .string x.space, .string x.name, .slice none 0 0, .int .i64 y.depth, .string y.text, .string y.space, .string y.name, .slice none 0 0])) (hg : w0.grownBy w1 v.ownBlock)
    (hv : v'.ownBlock = v.ownBlock ∨ ∃ g, v'.ownBlock = some g ∧ w0.heap.size ≤ g) :
    GrowIts w1 B v' (n + 2) (l ++ [x, y]) (putA (l.length + 1) none (putA l.length none A)) (putA (l.length + 1) 0 (putA l.length 0 N)) (putA (l.length + 1) 0 (putA l.length 0 C)) := by
  have hon := Only.grown hg
  have hs0 := hw.size
  have hs1 := hg.size
  have hvlt : ∀ g, v.ownBlock = some g → g < w.heap.size := fun g hgb => (h.row.lt g hgb).2
  have hl : ∀ i, i < l.length → (l ++ [x, y]).getD i dIt = l.getD i dIt := fun i hi => by simp [List.getD_eq_getElem?_getD, List.getElem?_append_left hi]
  have hold : ∀ i, i < l.length → ∀ z, A i = some z → N i ≠ 0 → B ≤ z.block ∧ z.block < w.heap.size := fun i hi z hz hne => (h.ats i hi).1.in hz hne
  have hput : ∀ {α : Type} (u : α) (F : Nat → α) (i : Nat), i < l.length → putA (l.length + 1) u (putA l.length u F) i = F i := fun u F i hi => by
    unfold putA
    rw [if_neg (by omega), if_neg (by omega)]
  have hput2 : ∀ {α : Type} (u : α) (F : Nat → α) (i : Nat), l.length ≤ i → i < l.length + 2 → putA (l.length + 1) u (putA l.length u F) i = u := fun u F i h1 h2 => by
    unfold putA
    by_cases e : i = l.length + 1
    · rw [if_pos e]
    · rw [if_neg e, if_pos (by omega)]
  have hlen : ∀ i, i < (l ++ [x, y]).length → i < l.length ∨ (l.length ≤ i ∧ i < l.length + 2) := fun i hi => by
    simp only [List.length_append, List.length_cons, List.length_nil] at hi
    omega
  refine ⟨?_, fun i hi => ?_, fun i hi z hz hne => ?_, fun i j hi hj hij z z' hz hz' hn hn' => ?_⟩
  · have e : l ++ [x, y] = (l ++ [x]) ++ [y] := by simp
    have e2 : (l ++ [x]).length = l.length + 1 := by simp
    rw [e, ← e2, flatI_snoc, flatI_snoc, List.append_assoc]
    exact hr
  · rcases hlen i hi with h1 | ⟨h1, h2⟩
    · rw [hput _ _ _ h1, hput _ _ _ h1, hput _ _ _ h1, hl i h1]
      have h0 := (h.ats i h1).1.only (Only.below (P := fun _ => False) hw) fun _ _ _ h => h
      have h3 := h0.only hon fun z hz hne hq => h.apart i h1 z hz hne hq.symm
      exact ⟨⟨h3.ats, h3.own.imp id fun ⟨b, g1, g2, g3, g4⟩ => ⟨b, g1, g2, by omega, g4⟩⟩, (h.ats i h1).2⟩
    · rw [hput2 _ _ _ h1 h2, hput2 _ _ _ h1 h2, hput2 _ _ _ h1 h2]
      have ea : ((l ++ [x, y]).getD i dIt).attrs = [] := by
        rw [List.getD_eq_getElem?_getD, List.getElem?_append_right h1]
        rcases (show i - l.length = 0 ∨ i - l.length = 1 by omega) with e | e
        · rw [e]; exact hx
        · rw [e]; exact hy
      rw [ea]
      exact ⟨bareAts _ _ _, fun _ => rfl⟩
  · rcases hlen i hi with h1 | ⟨h1, h2⟩
    · rw [hput _ _ _ h1] at hz hne
      have g1 := hold i h1 z hz hne
      rcases hv with hv | ⟨g, hv, hg2⟩
      · rw [hv]
        exact h.apart i h1 z hz hne
      · rw [hv]
        intro hq
        simp only [Option.some.injEq] at hq
        omega
    · rw [hput2 _ _ _ h1 h2] at hz
      cases hz
  · rcases hlen i hi with h1 | ⟨h1, h2⟩
    · rcases hlen j hj with h3 | ⟨h3, h4⟩
      · rw [hput _ _ _ h1] at hz hn
        rw [hput _ _ _ h3] at hz' hn'
        exact h.each i j h1 h3 hij z z' hz hz' hn hn'
      · rw [hput2 _ _ _ h3 h4] at hz'
        cases hz'
    · rw [hput2 _ _ _ h1 h2] at hz
      cases hz
theorem itemCells2 (W : World) (v0 v1 v2 v3 v4 v5 v6 v7 v8 v9 : Value) (j : Nat) (u : Value) (hj : [v0, v1, v2, v3, v4, v5, v6, v7, v8, v9][j]? = some u) : ((W.alloc (.cells #[v0, v1, v2, v3, v4, v5, v6, v7, v8, v9] 77))).cell? (Addr.add ⟨W.heap.size, 0, none⟩ j) = some u := by
  match j, hj with
  | 0, hj => simp at hj; subst hj; simp [Addr.add]
  | 1, hj => simp at hj; subst hj; simp [Addr.add]
  | 2, hj => simp at hj; subst hj; simp [Addr.add]
  | 3, hj => simp at hj; subst hj; simp [Addr.add]
  | 4, hj => simp at hj; subst hj; simp [Addr.add]
  | 5, hj => simp at hj; subst hj; simp [Addr.add]
  | 6, hj => simp at hj; subst hj; simp [Addr.add]
  | 7, hj => simp at hj; subst hj; simp [Addr.add]
  | 8, hj => simp at hj; subst hj; simp [Addr.add]
  | 9, hj => simp at hj; subst hj; simp [Addr.add]
end Go.Proofs.YticpebpicdboaaaGreatDoor

/- An append to a row of the call's own, as one step of a region that draws its order. -/
namespace Go.Proofs.YticpebpicdboaaaGreatDoor
open Go.ChangeShapes Go.WideShapes Go.ChangeAt Go.RowKit
set_option linter.unusedVariables false

theorem step_own {P : Program} {ops : Array Oper} {o : Oper} {a : Act} {w : World} {K : Act → World → Prop} {Q : Exit → Act → World → Prop} {E : Prop} (hw : Region.wanted o (yielded ops a.tmps) = true) (s x : Operand) (t : TypeId)
    (ho : o.op = .call { callee := .builtin .append, args := #[s, x], argTypes := #[t, t] })
    (e : TypeId) (i : TypeInfo) (z : Value) (size bytes : Nat) (ht : P.underlying t = some (.slice e)) (hi : P.info? e = some i) (hz : i.zero = some z) (hsize : i.size = size) (hby : i.bytes = bytes) (hzc : z.cells.size = size) (hpos : 0 < size)
    (base : Nat) (v : Value) (n : Nat) (xs : List Value) (hs : a.eval s = v) (hown : w.ownsRow base e size v n xs)
    (ad : Addr) (m c : Nat) (ys : List Value) (hx : a.eval x = .slice (some ad) m c) (hn : ys.length = m * size) (hcells : ∀ j u, ys[j]? = some u → w.cell? (ad.add j) = some u) (h1c : ∀ u ∈ ys, u.oneCell' = true)
    (b1 : n + m ≤ maxLen) (b2 : (n + m) * bytes ≤ 140737488355328) (hbase : base ≤ w.heap.size)
    (h : ∀ v' w', w'.ownsRow base e size v' (n + m) (xs ++ ys) → w.grownBy w' v.ownBlock → K (a.put o.dst v') w') :
    if Region.wanted o (yielded ops a.tmps) = true then Oper.wp P o a w K Q else E := by
  rw [if_pos hw]
  refine wp_append_own w s x t ho base e i _ size bytes ht hi hz hsize hby hzc hpos v n xs (by rw [hs]) hown ad m c ys hx hn hcells h1c b1 b2 hbase ?_
  intro v' w' hown' hgrow hnil
  exact h v' w' hown' hgrow
theorem step_own_at {P : Program} {ops : Array Oper} {o : Oper} {a : Act} {w : World} {K : Act → World → Prop} {Q : Exit → Act → World → Prop} {E : Prop} (hw : Region.wanted o (yielded ops a.tmps) = true) (s x : Operand) (t : TypeId)
    (ho : o.op = .call { callee := .builtin .append, args := #[s, x], argTypes := #[t, t] })
    (e : TypeId) (i : TypeInfo) (z : Value) (size bytes : Nat) (ht : P.underlying t = some (.slice e)) (hi : P.info? e = some i) (hz : i.zero = some z) (hsize : i.size = size) (hby : i.bytes = bytes) (hzc : z.cells.size = size) (hpos : 0 < size)
    (base : Nat) (v : Value) (n : Nat) (xs : List Value) (hs : a.eval s = v) (hown : w.ownsRow base e size v n xs)
    (ad : Addr) (m c : Nat) (ys : List Value) (hx : a.eval x = .slice (some ad) m c) (hn : ys.length = m * size) (hcells : ∀ j u, ys[j]? = some u → w.cell? (ad.add j) = some u) (h1c : ∀ u ∈ ys, u.oneCell' = true)
    (b1 : n + m ≤ maxLen) (b2 : (n + m) * bytes ≤ 140737488355328) (hbase : base ≤ w.heap.size)
    (h : ∀ v' w', w'.ownsRow base e size v' (n + m) (xs ++ ys) → w.grownBy w' v.ownBlock → (v'.ownBlock = v.ownBlock ∨ v'.ownBlock = some w.heap.size) → K (a.put o.dst v') w') :
    if Region.wanted o (yielded ops a.tmps) = true then Oper.wp P o a w K Q else E := by
  rw [if_pos hw]
  obtain ⟨v', w', hr, h2, h3, h4, h5⟩ := run_append_own_at (P := P) w base t o.type e i z size bytes ht hi hz hsize hby hzc hpos v n xs hown ad m c ys hn hcells h1c b1 b2 hbase
  unfold Oper.wp execOp
  simp only [ho, resolve, invoke, builtin, Sem.run_bind, Sem.run_pure, Result.andThen_ok, List.map_toArray, List.map_cons, List.map_nil, hs, hx, hr]
  exact h v' w' h2 h3 h5
end Go.Proofs.YticpebpicdboaaaGreatDoor

/- The model's l6Has. -/
namespace Go.Proofs.YticpebpicdboaaaGreatDoor
open Go.ChangeShapes Go.WideShapes Go.ChangeAt Go.RowKit
set_option linter.unusedVariables false

/-- the place of a text among texts, or -1 -/
def hasIx (ts : List ByteArray) (t : ByteArray) : Int := if ts.findIdx (fun x => x.toList == t.toList) < ts.length then (ts.findIdx (fun x => x.toList == t.toList) : Int) else -1
theorem hasIx_bd (ts : List ByteArray) (t : ByteArray) : -1 ≤ hasIx ts t ∧ hasIx ts t < ts.length := by
  unfold hasIx
  split <;> omega
/-- texts with one more, if it is not among them -/
def addT (ts : List ByteArray) (t : ByteArray) : List ByteArray := if 0 ≤ hasIx ts t then ts else ts ++ [t]
theorem addT_length (ts : List ByteArray) (t : ByteArray) : (addT ts t).length ≤ ts.length + 1 := by
  unfold addT
  split <;> simp

set_option maxHeartbeats 1600000 in
theorem l6Has_any (v : Value) (ts : List ByteArray) (t : ByteArray) (w : World) (h : RowS w v ts) :
    Calls Tryz.prog 161 #[v, .string t] w fun e w' => e = .returned (.int .i64 (hasIx ts t)) ∧ ∃ n, w' = w.drewN n := by
  have hle := List.findIdx_le_length (xs := ts) (p := fun x => x.toList == t.toList)
  have hat : ∀ h : ts.findIdx (fun x => x.toList == t.toList) < ts.length, ((ts.getD (ts.findIdx (fun x => x.toList == t.toList)) ByteArray.empty).toList == t.toList) = true := fun h => by
    have := List.findIdx_getElem (xs := ts) (p := fun x => x.toList == t.toList) (w := h)
    rw [List.getD_eq_getElem?_getD, List.getElem?_eq_getElem h]
    exact this
  have hlt : ∀ j, j < ts.findIdx (fun x => x.toList == t.toList) → j < ts.length → ((ts.getD j ByteArray.empty).toList == t.toList) = false := fun j hj hl => by
    have := List.not_of_lt_findIdx (xs := ts) (p := fun x => x.toList == t.toList) hj
    rw [List.getD_eq_getElem?_getD, List.getElem?_eq_getElem hl]
    simpa using this
  unfold hasIx
  generalize hm : ts.findIdx (fun x => x.toList == t.toList) = m at hle hat hlt ⊢
  generalize hr : (if m < ts.length then (m : Int) else -1) = r
  have HR := Lib.hid hr
  have HAT := Lib.hid hat
  have HLT := Lib.hid hlt
  clear hr hat hlt hm
  rcases h with ⟨rfl, rfl⟩ | ⟨b, o, cap, rfl, hc, hmx, hb, hx⟩
  · have hr : r = -1 := by rw [← HR.out]; simp
    subst hr
    go_enter Tryz.func161, Tryz.ntmps161
    go_wp2
    go_loop [8] (fun i => i = .int .i64 0) (fun _ => 0)
    case atStart => rfl
    case round =>
      subst hrel
      go_wp2
      go_ret
      exact ⟨rfl, 0, rfl⟩
  · have HX := Lib.hid hx
    unfold maxLen at hmx
    clear hx
    go_enter Tryz.func161, Tryz.ntmps161
    go_wp2
    go_loopw [8] (fun i wr => ∃ k : Nat, k ≤ m ∧ i = .int .i64 k ∧ ∃ n, wr = w.drewN n) (fun i _ => ts.length - (intOf i).toNat)
    case atStart => exact ⟨0, Nat.zero_le _, rfl, 0, rfl⟩
    case round =>
      obtain ⟨k, hk, rfl, nd, rfl⟩ := hrel
      by_cases hkl : k < ts.length
      · have d1 := HX.out k hkl
        have k1 : (k : Int) < (ts.length : Int) := by omega
        by_cases hkm : k < m
        · have he := HLT.out k hkm hkl
          generalize ts.getD k ByteArray.empty = x at d1 he
          go_wp2
          go_roundw
          case rel => exact ⟨k + 1, by omega, by go_num, _, rfl⟩
          case measure => simp [intOf]; omega
        · obtain rfl : k = m := by omega
          have he := HAT.out hkl
          have hr : r = (k : Int) := by rw [← HR.out, if_pos hkl]
          subst hr
          generalize ts.getD k ByteArray.empty = x at d1 he
          go_wp2
          go_ret
          exact ⟨rfl, _, rfl⟩
      · have hr : r = -1 := by rw [← HR.out, if_neg (by omega)]
        subst hr
        obtain rfl : k = ts.length := by omega
        go_wp2
        go_ret
        exact ⟨rfl, _, rfl⟩

theorem hasIx_pos {ts : List ByteArray} {t : ByteArray} (h : 0 ≤ hasIx ts t) : addT ts t = ts := by unfold addT; rw [if_pos h]
theorem hasIx_neg {ts : List ByteArray} {t : ByteArray} (h : ¬ 0 ≤ hasIx ts t) : addT ts t = ts ++ [t] := by unfold addT; rw [if_neg h]
end Go.Proofs.YticpebpicdboaaaGreatDoor

/- What a tree says as a stanza, in plain words: the root, its parts, the presence (for spec.l7Root, l7Part, l7Presence and the program's readings). -/
namespace Go.Proofs.YticpebpicdboaaaGreatDoor
open Go.ChangeShapes Go.WideShapes Go.ChangeAt Go.RowKit
set_option linter.unusedVariables false

/-- a presence of which nothing is said -/
def dPr : Pr := ⟨0, ByteArray.empty, ByteArray.empty, 0, ByteArray.empty, 0, []⟩
/-- what one attribute of the root says -/
def rootOne (x : At) (p : Pr) : Option Pr :=
  if x.name.toList = fromT.toList then some { p with sender := x.value }
  else if x.name.toList = toT.toList then some { p with goal := x.value }
  else if x.name.toList = typeT.toList then (if hasIx kindWs x.value < 1 then none else some { p with kind := hasIx kindWs x.value })
  else none
def rootF (l : List At) : Nat → Nat → Pr → Option Pr
  | 0, _, p => some p
  | f + 1, i, p => match rootOne (l.getD i dAt) p with | some q => rootF l f (i + 1) q | none => none
/-- what the root says -/
def rootP (x : It) (p : Pr) : Option Pr :=
  if x.name.toList = prT.toList ∧ x.space.toList = csL then rootF x.attrs x.attrs.length 0 p else none
/-- what a child of the client's space says -/
def partP (l : List It) (i : Nat) (p : Pr) : Option Pr :=
  match textL l i with
  | none => none
  | some t =>
    if (l.getD i dIt).attrs.length ≠ 0 then none
    else if (l.getD i dIt).name.toList = showNm.toList then (if hasIx showWs t < 1 then none else some { p with shown := hasIx showWs t })
    else if (l.getD i dIt).name.toList = statusNm.toList then some { p with status := t }
    else if (l.getD i dIt).name.toList = prioNm.toList then (match numOf t.toList with | some n => some { p with prio := n } | none => none)
    else none
/-- one child more: what is seen of names, and the presence so far -/
def kidOne (l : List It) (i : Nat) (s : List ByteArray × Pr) : Option (List ByteArray × Pr) :=
  if (l.getD i dIt).name.toList.isEmpty then none
  else if (l.getD i dIt).space.toList ≠ csL then some (s.1, { s.2 with more := s.2.more ++ movedTo l i (endL l i) (-1) })
  else if 0 ≤ hasIx s.1 (l.getD i dIt).name then none
  else match partP l i s.2 with | some q => some (s.1 ++ [(l.getD i dIt).name], q) | none => none
def kidsF (l : List It) (ks : List Int) : Nat → Nat → List ByteArray × Pr → Option Pr
  | 0, _, s => some s.2
  | f + 1, j, s => match kidOne l (ks.getD j 0).toNat s with | some t => kidsF l ks f (j + 1) t | none => none
/-- the presence that a tree says -/
def readP (l : List It) : Option Pr := match rootP (l.getD 0 dIt) dPr with | some p => kidsF l (kidsL l 0) (kidsL l 0).length 0 ([], p) | none => none

theorem rootF_step {l : List At} {f i : Nat} {p q : Pr} (h : rootOne (l.getD i dAt) p = some q) : rootF l (f + 1) i p = rootF l f (i + 1) q := by
  simp only [rootF, h]
theorem rootF_stop {l : List At} {f i : Nat} {p : Pr} (h : rootOne (l.getD i dAt) p = none) : rootF l (f + 1) i p = none := by
  simp only [rootF, h]
theorem kidsF_step {l : List It} {ks : List Int} {f j : Nat} {s t : List ByteArray × Pr} (h : kidOne l (ks.getD j 0).toNat s = some t) : kidsF l ks (f + 1) j s = kidsF l ks f (j + 1) t := by
  simp only [kidsF, h]
theorem kidsF_stop {l : List It} {ks : List Int} {f j : Nat} {s : List ByteArray × Pr} (h : kidOne l (ks.getD j 0).toNat s = none) : kidsF l ks (f + 1) j s = none := by
  simp only [kidsF, h]
/-- the root leaves what is said of other things -/
theorem rootOne_rest {x : At} {p q : Pr} (h : rootOne x p = some q) : q.shown = p.shown ∧ q.status = p.status ∧ q.prio = p.prio ∧ q.more = p.more := by
  unfold rootOne at h
  split at h
  · cases h; exact ⟨rfl, rfl, rfl, rfl⟩
  · split at h
    · cases h; exact ⟨rfl, rfl, rfl, rfl⟩
    · split at h
      · split at h
        · cases h
        · cases h; exact ⟨rfl, rfl, rfl, rfl⟩
      · cases h
theorem rootF_rest {l : List At} : ∀ {f i : Nat} {p q : Pr}, rootF l f i p = some q → q.shown = p.shown ∧ q.status = p.status ∧ q.prio = p.prio ∧ q.more = p.more
  | 0, i, p, q, h => by cases h; exact ⟨rfl, rfl, rfl, rfl⟩
  | f + 1, i, p, q, h => by
    cases h1 : rootOne (l.getD i dAt) p with
    | none => rw [rootF_stop h1] at h; cases h
    | some r =>
      rw [rootF_step h1] at h
      obtain ⟨a1, a2, a3, a4⟩ := rootF_rest h
      obtain ⟨b1, b2, b3, b4⟩ := rootOne_rest h1
      exact ⟨a1.trans b1, a2.trans b2, a3.trans b3, a4.trans b4⟩
theorem kinds_index (t : ByteArray) : -1 ≤ hasIx kindWs t ∧ hasIx kindWs t < 7 := hasIx_bd kindWs t
theorem shows_index (t : ByteArray) : -1 ≤ hasIx showWs t ∧ hasIx showWs t < 5 := hasIx_bd showWs t
end Go.Proofs.YticpebpicdboaaaGreatDoor

/- What a tree says as a presence is small. -/
namespace Go.Proofs.YticpebpicdboaaaGreatDoor
open Go.ChangeShapes Go.WideShapes Go.ChangeAt Go.RowKit
set_option linter.unusedVariables false

theorem textL_size {l : List It} (h : treeCode l = 0) {a : Nat} (ha : a < l.length) {t : ByteArray} (ht : textL l a = some t) : t.size ≤ 60 := by
  obtain ⟨h1, h2⟩ := in_text h ha
  rw [ht] at h1 h2
  simp only [Option.isSome_some, if_true] at h1
  unfold txtT at h2
  dsimp only at h2
  unfold inC at h1
  unfold inT at h2
  by_cases hall : (List.range (kidsUp l l.length a).length).all (isTx l (kidsUp l l.length a)) = true
  · rw [if_pos hall] at h1 h2
    by_cases h60 : 60 < (joinT l (kidsUp l l.length a) (kidsUp l l.length a).length).size
    · rw [if_pos h60] at h1
      cases h1
    · rw [if_neg h60] at h2
      rw [← h2]
      omega
  · rw [if_neg hall] at h1
    cases h1
/-- the texts of a presence are short -/
structure ShortPr (p : Pr) : Prop where
  s1 : p.sender.size ≤ 60
  s2 : p.goal.size ≤ 60
  s4 : p.status.size ≤ 60
theorem atts_small {x : It} (hg : itemCode x = 0) : x.attrs.length ≤ 5 ∧ ∀ j, j < x.attrs.length → (x.attrs.getD j dAt).value.size ≤ 60 := by
  cases he : x.name.toList.isEmpty
  · unfold itemCode at hg
    split at hg
    · omega
    · rw [if_neg (by rw [he]; simp)] at hg
      unfold elemCode at hg
      split at hg
      · omega
      · split at hg
        · omega
        · split at hg
          · unfold attrsCode at hg
            split at hg
            · omega
            · rename_i h5
              refine ⟨by omega, fun j hj => ?_⟩
              cases hf : x.attrs.find? (fun x => atFault x != 0) with
              | some y =>
                rw [hf] at hg
                have := List.find?_some hf
                rw [bne_iff_ne] at this
                exact absurd hg this
              | none =>
                have h2 := List.find?_eq_none.1 hf (x.attrs.getD j dAt) (by rw [List.getD_eq_getElem?_getD, List.getElem?_eq_getElem hj]; exact List.getElem_mem hj)
                have h3 : atFault (x.attrs.getD j dAt) = 0 := by simpa using h2
                generalize x.attrs.getD j dAt = y at h3
                unfold atFault at h3
                split at h3
                · unfold textFault at h3
                  split at h3
                  · omega
                  · rename_i h6
                    simp at h6
                    exact h6
                · omega
          · rename_i h3
            exact absurd hg h3
  · have e := text_attrs hg he
    rw [e]
    exact ⟨by decide, fun j hj => by simp at hj⟩
/-- what a good item is -/
theorem atts_size {l : List It} (h : treeCode l = 0) {i : Nat} (hi : i < l.length) : (l.getD i dIt).attrs.length ≤ 5 ∧ ∀ j, j < (l.getD i dIt).attrs.length → ((l.getD i dIt).attrs.getD j dAt).value.size ≤ 60 := by
  have hg := good_item h hi
  generalize l.getD i dIt = x at hg
  exact atts_small hg
theorem rootOne_short {x : At} {p q : Pr} (hx : x.value.size ≤ 60) (hp : ShortPr p) (h : rootOne x p = some q) : ShortPr q := by
  unfold rootOne at h
  split at h
  · cases h; exact ⟨hx, hp.s2, hp.s4⟩
  · split at h
    · cases h; exact ⟨hp.s1, hx, hp.s4⟩
    · split at h
      · split at h
        · cases h
        · cases h; exact ⟨hp.s1, hp.s2, hp.s4⟩
      · cases h
theorem rootF_short {l : List At} (hl : ∀ i, i < l.length → (l.getD i dAt).value.size ≤ 60) : ∀ {f i : Nat} {p q : Pr}, i + f ≤ l.length → ShortPr p → rootF l f i p = some q → ShortPr q
  | 0, i, p, q, _, hp, h => by cases h; exact hp
  | f + 1, i, p, q, hif, hp, h => by
    cases h1 : rootOne (l.getD i dAt) p with
    | none => rw [rootF_stop h1] at h; cases h
    | some r =>
      rw [rootF_step h1] at h
      exact rootF_short hl (by omega) (rootOne_short (hl i (by omega)) hp h1) h
theorem dPr_short : ShortPr dPr := ⟨by decide, by decide, by decide⟩
theorem rootP_short {l : List It} (h : treeCode l = 0) (h0 : 0 < l.length) {q : Pr} (hq : rootP (l.getD 0 dIt) dPr = some q) : ShortPr q := by
  unfold rootP at hq
  split at hq
  · exact rootF_short (atts_size h h0).2 (by omega) dPr_short hq
  · cases hq
theorem rootP_rest {x : It} {q : Pr} (hq : rootP x dPr = some q) : q.more = [] := by
  unfold rootP at hq
  split at hq
  · exact (rootF_rest hq).2.2.2
  · cases hq
theorem partP_short {l : List It} (h : treeCode l = 0) {i : Nat} (hi : i < l.length) {p q : Pr} (hp : ShortPr p) (hq : partP l i p = some q) : ShortPr q ∧ q.more = p.more := by
  unfold partP at hq
  cases ht : textL l i with
  | none => rw [ht] at hq; cases hq
  | some t =>
    have h60 := textL_size h hi ht
    rw [ht] at hq
    dsimp only at hq
    split at hq
    · cases hq
    · split at hq
      · split at hq
        · cases hq
        · cases hq; exact ⟨⟨hp.s1, hp.s2, hp.s4⟩, rfl⟩
      · split at hq
        · cases hq; exact ⟨⟨hp.s1, hp.s2, h60⟩, rfl⟩
        · split at hq
          · split at hq
            · cases hq; exact ⟨⟨hp.s1, hp.s2, hp.s4⟩, rfl⟩
            · cases hq
          · cases hq
end Go.Proofs.YticpebpicdboaaaGreatDoor

/- What an item without fault lacks; what is kept over new memory. -/
namespace Go.Proofs.YticpebpicdboaaaGreatDoor
open Go.ChangeShapes Go.WideShapes Go.ChangeAt Go.RowKit
set_option linter.unusedVariables false

theorem empty_str {s : ByteArray} (h : s.toList.isEmpty = true) : s = ⟨#[]⟩ := by
  rw [ByteArray.toList_eq, List.isEmpty_iff] at h
  cases s with
  | mk d =>
    congr 1
    exact Array.toList_eq_nil_iff.1 h
theorem item_text {x : It} (h : itemCode x = 0) (hx : x.name.toList.isEmpty = true) : x.name = ⟨#[]⟩ ∧ x.space = ⟨#[]⟩ ∧ x.attrs = [] := by
  unfold itemCode at h
  split at h
  · omega
  · unfold textCode at h
    split at h
    · omega
    · rename_i h1 h2
      have h3 : x.space.toList.isEmpty = true := by
        cases e : x.space.toList.isEmpty
        · exact absurd (.inl e) h2
        · rfl
      have h4 : x.attrs.length = 0 := by
        rcases Nat.eq_zero_or_pos x.attrs.length with e | e
        · exact e
        · exact absurd (.inr (.inl e)) h2
      exact ⟨empty_str hx, empty_str h3, List.length_eq_zero_iff.1 h4⟩
theorem item_elem {x : It} (h : itemCode x = 0) (hx : x.name.toList.isEmpty = false) : x.text = ⟨#[]⟩ := by
  unfold itemCode at h
  split at h
  · omega
  · rw [if_neg (by rw [hx]; simp)] at h
    unfold elemCode at h
    split at h
    · omega
    · rename_i h2
      refine empty_str ?_
      cases e : x.text.toList.isEmpty
      · exact absurd e h2
      · rfl
theorem alloc_keep {W : World} {p : Addr} {v : Value} (h : W.cell? p = some v) (x : Obj) : (W.alloc x).cell? p = some v := ((below1 W x).cell (World.block_lt_of_cell? _ _ h)).trans h
end Go.Proofs.YticpebpicdboaaaGreatDoor
