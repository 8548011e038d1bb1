/- Plain facts on the tree of a presence; two bare items appended to a row that grows. -/
import Derived.Test.YtpafknmfacgccaaGreatDoorGT20
import Derived.Test.YtpafknmfacgccaaGreatDoorGT14
import Derived.Test.YtpafknmfacgccaaGreatDoorGT22
import Derived.Test.YtpafknmfacgccaaGreatDoorGT9
namespace Go.Proofs.YtpafknmfacgccaaGreatDoor
open Go.ChangeShapes Go.WideShapes Go.ChangeAt Go.RowKit
set_option linter.unusedVariables false

/-- the client's space -/
def csT : ByteArray := ⟨#[106, 97, 98, 98, 101, 114, 58, 99, 108, 105, 101, 110, 116]⟩
def prT : ByteArray := ⟨#[112, 114, 101, 115, 101, 110, 99, 101]⟩
def fromT : ByteArray := ⟨#[102, 114, 111, 109]⟩
def toT : ByteArray := ⟨#[116, 111]⟩
def typeT : ByteArray := ⟨#[116, 121, 112, 101]⟩
def showNm : ByteArray := ⟨#[115, 104, 111, 119]⟩
def statusNm : ByteArray := ⟨#[115, 116, 97, 116, 117, 115]⟩
def prioNm : ByteArray := ⟨#[112, 114, 105, 111, 114, 105, 116, 121]⟩
/-- an element with a text in it, if there is one -/
def partL (nm t : ByteArray) : List It := if t.toList.isEmpty then [] else [⟨1, ⟨#[]⟩, csT, nm, []⟩, ⟨2, t, ⟨#[]⟩, ⟨#[]⟩, []⟩]
def prioT (n : Int) : ByteArray := if n = 0 then ⟨#[]⟩ else numT n
def attrs3 (p : Pr) : List At := addAt (addAt (addAt [] fromT p.sender) toT p.goal) typeT (kindW p.kind)
def rootI (p : Pr) : It := ⟨0, ⟨#[]⟩, csT, prT, attrs3 p⟩
def headL (p : Pr) : List It := (([rootI p] ++ partL showNm (showW p.shown)) ++ partL statusNm p.status) ++ partL prioNm (prioT p.prio)
def treeL (p : Pr) : List It := headL p ++ movedTo p.more 0 p.more.length 1
/-- those that say anything -/
def filledL (l : List At) : List At := l.filter fun x => !x.value.toList.isEmpty
theorem filled_snoc (l : List At) (x : At) : filledL (l ++ [x]) = if x.value.toList.isEmpty then filledL l else filledL l ++ [x] := by
  unfold filledL
  rw [List.filter_append]
  cases h : x.value.toList.isEmpty <;> simp [h]
theorem filled_three (p : Pr) : filledL [⟨fromT, p.sender⟩, ⟨toT, p.goal⟩, ⟨typeT, kindW p.kind⟩] = attrs3 p := by
  have e : ([⟨fromT, p.sender⟩, ⟨toT, p.goal⟩, ⟨typeT, kindW p.kind⟩] : List At) = (([] ++ [⟨fromT, p.sender⟩]) ++ [⟨toT, p.goal⟩]) ++ [⟨typeT, kindW p.kind⟩] := rfl
  rw [e, filled_snoc, filled_snoc, filled_snoc]
  rfl
theorem filled_le (l : List At) : (filledL l).length ≤ l.length := List.length_filter_le _ _
theorem partL_len (nm t : ByteArray) : (partL nm t).length ≤ 2 := by unfold partL; split <;> simp
theorem headL_len (p : Pr) : (headL p).length ≤ 7 := by
  have h1 := partL_len showNm (showW p.shown)
  have h2 := partL_len statusNm p.status
  have h3 := partL_len prioNm (prioT p.prio)
  unfold headL
  simp only [List.length_append, List.length_cons, List.length_nil]
  omega
theorem headL_pos (p : Pr) : 1 ≤ (headL p).length := by
  unfold headL
  simp only [List.length_append, List.length_cons, List.length_nil]
  omega

/-- behind an append of two items without attributes -/
theorem GrowIts.two {w w0 w1 : World} {B : Nat} {v v' : Value} {n : Nat} {l : List It} {A : Nat → Option Addr} {N C : Nat → Nat} {x y : It}
    (h : GrowIts w B v n l A N C) (hw : Below w.heap.size w w0) (hx : x.attrs = []) (hy : y.attrs = []) (hB : B ≤ w.heap.size)
    (hr : w1.ownsRow B 68 5 v' (n + 2) (flatI l A N C ++ [.int .i64 x.depth, .string x.text, .string x.space, .string x.name, .slice none 0 0, .int .i64 y.depth, .string y.text, .string y.space, .string y.name, .slice none 0 0])) (hg : w0.grownBy w1 v.ownBlock)
    (hv : v'.ownBlock = v.ownBlock ∨ ∃ g, v'.ownBlock = some g ∧ w0.heap.size ≤ g) :
    GrowIts w1 B v' (n + 2) (l ++ [x, y]) (putA (l.length + 1) none (putA l.length none A)) (putA (l.length + 1) 0 (putA l.length 0 N)) (putA (l.length + 1) 0 (putA l.length 0 C)) := by
  have hon := Only.grown hg
  have hs0 := hw.size
  have hs1 := hg.size
  have hvlt : ∀ g, v.ownBlock = some g → g < w.heap.size := fun g hgb => (h.row.lt g hgb).2
  have hl : ∀ i, i < l.length → (l ++ [x, y]).getD i dIt = l.getD i dIt := fun i hi => by simp [List.getD_eq_getElem?_getD, List.getElem?_append_left hi]
  have hold : ∀ i, i < l.length → ∀ z, A i = some z → N i ≠ 0 → B ≤ z.block ∧ z.block < w.heap.size := fun i hi z hz hne => (h.ats i hi).1.in hz hne
  have hput : ∀ {α : Type} (u : α) (F : Nat → α) (i : Nat), i < l.length → putA (l.length + 1) u (putA l.length u F) i = F i := fun u F i hi => by
    unfold putA
    rw [if_neg (by omega), if_neg (by omega)]
  have hput2 : ∀ {α : Type} (u : α) (F : Nat → α) (i : Nat), l.length ≤ i → i < l.length + 2 → putA (l.length + 1) u (putA l.length u F) i = u := fun u F i h1 h2 => by
    unfold putA
    by_cases e : i = l.length + 1
    · rw [if_pos e]
    · rw [if_neg e, if_pos (by omega)]
  have hlen : ∀ i, i < (l ++ [x, y]).length → i < l.length ∨ (l.length ≤ i ∧ i < l.length + 2) := fun i hi => by
    simp only [List.length_append, List.length_cons, List.length_nil] at hi
    omega
  refine ⟨?_, fun i hi => ?_, fun i hi z hz hne => ?_, fun i j hi hj hij z z' hz hz' hn hn' => ?_⟩
  · have e : l ++ [x, y] = (l ++ [x]) ++ [y] := by simp
    have e2 : (l ++ [x]).length = l.length + 1 := by simp
    rw [e, ← e2, flatI_snoc, flatI_snoc, List.append_assoc]
    exact hr
  · rcases hlen i hi with h1 | ⟨h1, h2⟩
    · rw [hput _ _ _ h1, hput _ _ _ h1, hput _ _ _ h1, hl i h1]
      have h0 := (h.ats i h1).1.only (Only.below (P := fun _ => False) hw) fun _ _ _ h => h
      have h3 := h0.only hon fun z hz hne hq => h.apart i h1 z hz hne hq.symm
      exact ⟨⟨h3.ats, h3.own.imp id fun ⟨b, g1, g2, g3, g4⟩ => ⟨b, g1, g2, by omega, g4⟩⟩, (h.ats i h1).2⟩
    · rw [hput2 _ _ _ h1 h2, hput2 _ _ _ h1 h2, hput2 _ _ _ h1 h2]
      have ea : ((l ++ [x, y]).getD i dIt).attrs = [] := by
        rw [List.getD_eq_getElem?_getD, List.getElem?_append_right h1]
        rcases (show i - l.length = 0 ∨ i - l.length = 1 by omega) with e | e
        · rw [e]; exact hx
        · rw [e]; exact hy
      rw [ea]
      exact ⟨bareAts _ _ _, fun _ => rfl⟩
  · rcases hlen i hi with h1 | ⟨h1, h2⟩
    · rw [hput _ _ _ h1] at hz hne
      have g1 := hold i h1 z hz hne
      rcases hv with hv | ⟨g, hv, hg2⟩
      · rw [hv]
        exact h.apart i h1 z hz hne
      · rw [hv]
        intro hq
        simp only [Option.some.injEq] at hq
        omega
    · rw [hput2 _ _ _ h1 h2] at hz
      cases hz
  · rcases hlen i hi with h1 | ⟨h1, h2⟩
    · rcases hlen j hj with h3 | ⟨h3, h4⟩
      · rw [hput _ _ _ h1] at hz hn
        rw [hput _ _ _ h3] at hz' hn'
        exact h.each i j h1 h3 hij z z' hz hz' hn hn'
      · rw [hput2 _ _ _ h3 h4] at hz'
        cases hz'
    · rw [hput2 _ _ _ h1 h2] at hz
      cases hz
theorem itemCells2 (W : World) (v0 v1 v2 v3 v4 v5 v6 v7 v8 v9 : Value) (j : Nat) (u : Value) (hj : [v0, v1, v2, v3, v4, v5, v6, v7, v8, v9][j]? = some u) : ((W.alloc (.cells #[v0, v1, v2, v3, v4, v5, v6, v7, v8, v9] 68))).cell? (Addr.add ⟨W.heap.size, 0, none⟩ j) = some u := by
  match j, hj with
  | 0, hj => simp at hj; subst hj; simp [Addr.add]
  | 1, hj => simp at hj; subst hj; simp [Addr.add]
  | 2, hj => simp at hj; subst hj; simp [Addr.add]
  | 3, hj => simp at hj; subst hj; simp [Addr.add]
  | 4, hj => simp at hj; subst hj; simp [Addr.add]
  | 5, hj => simp at hj; subst hj; simp [Addr.add]
  | 6, hj => simp at hj; subst hj; simp [Addr.add]
  | 7, hj => simp at hj; subst hj; simp [Addr.add]
  | 8, hj => simp at hj; subst hj; simp [Addr.add]
  | 9, hj => simp at hj; subst hj; simp [Addr.add]
end Go.Proofs.YtpafknmfacgccaaGreatDoor

/- impl.filledAttrs. -/
namespace Go.Proofs.YtpafknmfacgccaaGreatDoor
open Go.ChangeShapes Go.WideShapes Go.ChangeAt Go.RowKit
set_option linter.unusedVariables false

/-- a row of attributes of one's own -/
def AttrNew (w : World) (es : List At) (en : Ending) (w' : World) : Prop :=
  ∃ (a : Option Addr) (n c : Nat), en = .returned (.slice a n c) ∧ w'.ownsRow w.heap.size 66 2 (.slice a n c) n (flatA es) ∧ n ≤ 100 ∧ Below w.heap.size w w'
set_option maxRecDepth 100000 in
set_option maxHeartbeats 1600000 in
theorem filledAttrs_any (a : Option Addr) (n c : Nat) (l : List At) (w : World) (hn : n ≤ 100) (h : AtsAt w a n c l) :
    Calls Tryz.prog 46 #[.slice a n c] w (AttrNew w (filledL l)) := by
  obtain ⟨i0, hi, hz0, hi1, hz2⟩ := info_parts attrInfo
  have HR := Lib.hid h.row
  have HL := Lib.hid h.len
  clear h
  unfold AttrNew
  go_enter Tryz.func46, Tryz.ntmps46
  go_wp2
  go_loopw [3, 8] (fun v i wr => ∃ (k nv cv : Nat) (av : Option Addr), k ≤ n ∧ i = .int .i64 k ∧ v = .slice av nv cv ∧ nv ≤ k ∧ wr.ownsRow w.heap.size 66 2 (.slice av nv cv) nv (flatA (filledL (l.take k))) ∧ Below w.heap.size w wr) (fun _ i _ => n - (intOf i).toNat)
  case atStart => exact ⟨0, 0, 0, none, Nat.zero_le _, rfl, rfl, Nat.le_refl _, World.ownsRow_nil _ _ _ _, Below.refl _ _⟩
  case round =>
    obtain ⟨k, nv, cv, av, hk, rfl, rfl, hnv, ho, hb⟩ := hrel
    have HO := Lib.hid ho
    have HB := Lib.hid hb
    clear ho hb
    by_cases hlt : k < n
    · obtain ⟨b, o, rfl, h3, h4⟩ := HR.out.resolve_left (by omega)
      have d0 : wr.cell? ⟨b, o + k * 2, none⟩ = some (.string (l.getD k dAt).name) := (HB.out.cell (by exact h3)).trans (h4 k hlt).1
      have d1 : wr.cell? ⟨b, o + k * 2 + 1, none⟩ = some (.string (l.getD k dAt).value) := (HB.out.cell (by exact h3)).trans (h4 k hlt).2
      have HT : Hid (filledL (l.take (k + 1)) = if (l.getD k dAt).value.toList.isEmpty then filledL (l.take k) else filledL (l.take k) ++ [l.getD k dAt]) := Lib.hid (by
        have hl := HL.out
        rw [List.take_add_one, List.getElem?_eq_getElem (by omega), Option.toList_some, filled_snoc, List.getD_eq_getElem?_getD, List.getElem?_eq_getElem (by omega)]
        rfl)
      have k1 : (k : Int) < (n : Int) := by omega
      clear h4
      generalize l.getD k dAt = x at d0 d1 HT
      obtain ⟨s, t⟩ := x
      dsimp only at d0 d1 HT
      cases he : t.toList.isEmpty
      · rw [he, if_neg (by simp)] at HT
        have HO1 := Lib.hid (owns_below HO.out (below2 wr (.cells #[.string s, .string t] 66) (.cells #[.string s, .string t] 66)))
        go_wp2_with (at_builtin; refine wpList_append_own_at _ rfl _ _ 63 rfl w.heap.size 66 i0 (.agg #[.string ByteArray.empty, .string ByteArray.empty]) 2 32 Tryz.underlying63 hi hz0 hi1 hz2 rfl (by decide) _ nv _ rfl HO1.out ⟨wr.heap.size + 1, 0, none⟩ 1 1 [.string s, .string t] rfl rfl ?c1 ?c2 ?c3 ?c4 ?c5 ?_)
        case c1 => exact fun j u hj => by have := atCells (wr.alloc (.cells #[.string s, .string t] 66)) s t j u hj; simpa using this
        case c2 => intro v hv; simp at hv; rcases hv with rfl | rfl <;> rfl
        case c3 => unfold maxLen; omega
        case c4 => omega
        case c5 => have := HB.out.size; simp; omega
        intro v' w1 hown hgr _ hat
        obtain ⟨a8, c8, rfl⟩ := owns_slice hown
        have R : Hid (w1.ownsRow w.heap.size 66 2 (.slice a8 (nv + 1) c8) (nv + 1) (flatA (filledL (l.take (k + 1))))) := Lib.hid (by rw [HT.out, flatA_more]; exact hown)
        have B1 := Lib.hid (((HB.out.alloc HB.out.size (.cells #[.string s, .string t] 66)).alloc (by have := HB.out.size; simp; omega) (.cells #[.string s, .string t] 66)).grown hgr (by have := HB.out.size; simp; omega) (fun j hj => (HO.out.lt j hj).1))
        clear hown hgr hat
        go_wp2
        go_roundw
        case rel => exact ⟨k + 1, nv + 1, c8, a8, by omega, by go_num, rfl, by omega, R.out, B1.out⟩
        case measure => simp [intOf]; omega
      · rw [he, if_pos rfl] at HT
        go_wp2
        go_roundw
        case rel => exact ⟨k + 1, nv, cv, av, by omega, by go_num, rfl, by omega, by rw [HT.out]; exact owns_below HO.out (below1 wr _), HB.out.alloc HB.out.size _⟩
        case measure => simp [intOf]; omega
    · obtain rfl : k = n := by omega
      have R : Hid (wr.ownsRow w.heap.size 66 2 (.slice av nv cv) nv (flatA (filledL l))) := Lib.hid (by
        have := HO.out
        rwa [List.take_of_length_le (by have := HL.out; omega)] at this)
      go_wp2
      go_ret
      exact ⟨_, _, _, rfl, R.out, by omega, HB.out⟩
end Go.Proofs.YtpafknmfacgccaaGreatDoor
