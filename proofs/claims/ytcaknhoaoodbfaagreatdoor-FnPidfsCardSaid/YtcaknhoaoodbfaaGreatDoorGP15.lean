/- Words that are numbers: the model's l7Read, NumberOf. -/
import Derived.Test.YtcaknhoaoodbfaaGreatDoorGP14
import Derived.Lib.IndexBytes
import Derived.Test.YtcaknhoaoodbfaaGreatDoorGP0
import Derived.IntWalk
namespace Go.Proofs.YtcaknhoaoodbfaaGreatDoor
open Go.ChangeShapes Go.WideShapes Go.ChangeAt Go.RowKit
set_option linter.unusedVariables false
def digitsL (l : List UInt8) : List UInt8 := if l.take 1 = [45] then l.drop 1 else l
def signedN (l : List UInt8) (n : Int) : Int := if l.take 1 = [45] then -n else n
def numOf (l : List UInt8) : Option Int :=
  if numberL 10 3 (digitsL l) < 0 then none
  else if (numT (signedN l (numberL 10 3 (digitsL l)))).data.toList = l then some (signedN l (numberL 10 3 (digitsL l))) else none
def ReadN (l : List UInt8) (w : World) (e : Ending) (w' : World) : Prop :=
  ∃ (m : Int) (b : Bool), e = .returned (.tuple #[.int .i64 m, .bool b]) ∧ numOf l = (if b then some m else none) ∧ Below w.heap.size w w'
def csT : ByteArray := ⟨#[106, 97, 98, 98, 101, 114, 58, 99, 108, 105, 101, 110, 116]⟩
def prT : ByteArray := ⟨#[112, 114, 101, 115, 101, 110, 99, 101]⟩
def fromT : ByteArray := ⟨#[102, 114, 111, 109]⟩
def toT : ByteArray := ⟨#[116, 111]⟩
def typeT : ByteArray := ⟨#[116, 121, 112, 101]⟩
def showNm : ByteArray := ⟨#[115, 104, 111, 119]⟩
def statusNm : ByteArray := ⟨#[115, 116, 97, 116, 117, 115]⟩
def prioNm : ByteArray := ⟨#[112, 114, 105, 111, 114, 105, 116, 121]⟩
def partL (nm t : ByteArray) : List It := if t.toList.isEmpty then [] else [⟨1, ⟨#[]⟩, csT, nm, []⟩, ⟨2, t, ⟨#[]⟩, ⟨#[]⟩, []⟩]
def prioT (n : Int) : ByteArray := if n = 0 then ⟨#[]⟩ else numT n
def attrs3 (p : Pr) : List At := addAt (addAt (addAt [] fromT p.sender) toT p.goal) typeT (kindW p.kind)
def rootI (p : Pr) : It := ⟨0, ⟨#[]⟩, csT, prT, attrs3 p⟩
def headL (p : Pr) : List It := (([rootI p] ++ partL showNm (showW p.shown)) ++ partL statusNm p.status) ++ partL prioNm (prioT p.prio)
def treeL (p : Pr) : List It := headL p ++ movedTo p.more 0 p.more.length 1
def filledL (l : List At) : List At := l.filter fun x => !x.value.toList.isEmpty
theorem GrowIts.two {w w0 w1 : World} {B : Nat} {v v' : Value} {n : Nat} {l : List It} {A : Nat → Option Addr} {N C : Nat → Nat} {x y : It}
    (h : GrowIts w B v n l A N C) (hw : Below w.heap.size w w0) (hx : x.attrs = []) (hy : y.attrs = []) (hB : B ≤ w.heap.size)
    (hr : w1.ownsRow B 67 5 v' (n + 2) (flatI l A N C ++ [.int .i64 x.depth, .string x.text, .string x.space, .string x.name, .slice none 0 0, .int .i64 y.depth, .string y.text, .string y.space, .string y.name, .slice none 0 0])) (hg : w0.grownBy w1 v.ownBlock)
    (hv : v'.ownBlock = v.ownBlock ∨ ∃ g, v'.ownBlock = some g ∧ w0.heap.size ≤ g) :
    GrowIts w1 B v' (n + 2) (l ++ [x, y]) (putA (l.length + 1) none (putA l.length none A)) (putA (l.length + 1) 0 (putA l.length 0 N)) (putA (l.length + 1) 0 (putA l.length 0 C)) := by
  have hon := Only.grown hg
  have hs0 := hw.size
  have hs1 := hg.size
  have hvlt : ∀ g, v.ownBlock = some g → g < w.heap.size := fun g hgb => (h.row.lt g hgb).2
  have hl : ∀ i, i < l.length → (l ++ [x, y]).getD i dIt = l.getD i dIt := fun i hi => by simp [List.getD_eq_getElem?_getD, List.getElem?_append_left hi]
  have hold : ∀ i, i < l.length → ∀ z, A i = some z → N i ≠ 0 → B ≤ z.block ∧ z.block < w.heap.size := fun i hi z hz hne => (h.ats i hi).1.in hz hne
  have hput : ∀ {α : Type} (u : α) (F : Nat → α) (i : Nat), i < l.length → putA (l.length + 1) u (putA l.length u F) i = F i := fun u F i hi => by
    unfold putA
    rw [if_neg (by omega), if_neg (by omega)]
  have hput2 : ∀ {α : Type} (u : α) (F : Nat → α) (i : Nat), l.length ≤ i → i < l.length + 2 → putA (l.length + 1) u (putA l.length u F) i = u := fun u F i h1 h2 => by
    unfold putA
    by_cases e : i = l.length + 1
    · rw [if_pos e]
    · rw [if_neg e, if_pos (by omega)]
  have hlen : ∀ i, i < (l ++ [x, y]).length → i < l.length ∨ (l.length ≤ i ∧ i < l.length + 2) := fun i hi => by
    simp only [List.length_append, List.length_cons, List.length_nil] at hi
    omega
  refine ⟨?_, fun i hi => ?_, fun i hi z hz hne => ?_, fun i j hi hj hij z z' hz hz' hn hn' => ?_⟩
  · have e : l ++ [x, y] = (l ++ [x]) ++ [y] := by simp
    have e2 : (l ++ [x]).length = l.length + 1 := by simp
    rw [e, ← e2, flatI_snoc, flatI_snoc, List.append_assoc]
    exact hr
  · rcases hlen i hi with h1 | ⟨h1, h2⟩
    · rw [hput _ _ _ h1, hput _ _ _ h1, hput _ _ _ h1, hl i h1]
      have h0 := (h.ats i h1).1.only (Only.below (P := fun _ => False) hw) fun _ _ _ h => h
      have h3 := h0.only hon fun z hz hne hq => h.apart i h1 z hz hne hq.symm
      exact ⟨⟨h3.ats, h3.own.imp id fun ⟨b, g1, g2, g3, g4⟩ => ⟨b, g1, g2, by omega, g4⟩⟩, (h.ats i h1).2⟩
    · rw [hput2 _ _ _ h1 h2, hput2 _ _ _ h1 h2, hput2 _ _ _ h1 h2]
      have ea : ((l ++ [x, y]).getD i dIt).attrs = [] := by
        rw [List.getD_eq_getElem?_getD, List.getElem?_append_right h1]
        rcases (show i - l.length = 0 ∨ i - l.length = 1 by omega) with e | e
        · rw [e]; exact hx
        · rw [e]; exact hy
      rw [ea]
      exact ⟨bareAts _ _ _, fun _ => rfl⟩
  · rcases hlen i hi with h1 | ⟨h1, h2⟩
    · rw [hput _ _ _ h1] at hz hne
      have g1 := hold i h1 z hz hne
      rcases hv with hv | ⟨g, hv, hg2⟩
      · rw [hv]
        exact h.apart i h1 z hz hne
      · rw [hv]
        intro hq
        simp only [Option.some.injEq] at hq
        omega
    · rw [hput2 _ _ _ h1 h2] at hz
      cases hz
  · rcases hlen i hi with h1 | ⟨h1, h2⟩
    · rcases hlen j hj with h3 | ⟨h3, h4⟩
      · rw [hput _ _ _ h1] at hz hn
        rw [hput _ _ _ h3] at hz' hn'
        exact h.each i j h1 h3 hij z z' hz hz' hn hn'
      · rw [hput2 _ _ _ h3 h4] at hz'
        cases hz'
    · rw [hput2 _ _ _ h1 h2] at hz
      cases hz
theorem itemCells2 (W : World) (v0 v1 v2 v3 v4 v5 v6 v7 v8 v9 : Value) (j : Nat) (u : Value) (hj : [v0, v1, v2, v3, v4, v5, v6, v7, v8, v9][j]? = some u) : ((W.alloc (.cells #[v0, v1, v2, v3, v4, v5, v6, v7, v8, v9] 67))).cell? (Addr.add ⟨W.heap.size, 0, none⟩ j) = some u := by
  match j, hj with
  | 0, hj => simp at hj; subst hj; simp [Addr.add]
  | 1, hj => simp at hj; subst hj; simp [Addr.add]
  | 2, hj => simp at hj; subst hj; simp [Addr.add]
  | 3, hj => simp at hj; subst hj; simp [Addr.add]
  | 4, hj => simp at hj; subst hj; simp [Addr.add]
  | 5, hj => simp at hj; subst hj; simp [Addr.add]
  | 6, hj => simp at hj; subst hj; simp [Addr.add]
  | 7, hj => simp at hj; subst hj; simp [Addr.add]
  | 8, hj => simp at hj; subst hj; simp [Addr.add]
  | 9, hj => simp at hj; subst hj; simp [Addr.add]
set_option maxRecDepth 100000 in
set_option maxHeartbeats 1600000 in
theorem l8Share_any (n : Nat) (hn : n ≤ 1000) (w : World) : Calls Tryz.prog 152 #[.int .i64 n] w (TextB (shareT n) w) := by
  have K1 := Lib.hid (l1Digits_any (n / 1000) (by omega))
  have K2 := Lib.hid (l1Digits_any (1000 + n % 1000) (by omega))
  have s1 := digT_size19 (n := n / 1000) (by omega)
  have s2 := digT_size19 (n := 1000 + n % 1000) (by omega)
  have s3 := digT_pos (1000 + n % 1000)
  have e1 : ((n / 1000 : Nat) : Int) = (n : Int) / 1000 := by omega
  have e2 : ((1000 + n % 1000 : Nat) : Int) = 1000 + (n : Int) % 1000 := by omega
  rw [e1] at K1
  rw [e2] at K2
  unfold shareT
  unfold TextB at *
  generalize digT (n / 1000) = t1 at *
  generalize digT (1000 + n % 1000) = t2 at *
  have s4 : (behindT t2).size ≤ 18 := by unfold behindT; rw [ByteArray.size_extract]; omega
  have e3 : t2.extract 1 t2.size = behindT t2 := rfl
  have HE := Lib.hid e3
  generalize behindT t2 = t3 at *
  have k1 : IntKind.i64.wrap ((n : Int) / 1000) = (n : Int) / 1000 := IntWalk.i64_in _ (by omega)
  have k2 : (n : Int).tmod 1000 = (n : Int) % 1000 := Int.tmod_eq_emod_of_nonneg (by omega)
  have k3 : IntKind.i64.wrap (1000 + (n : Int) % 1000) = 1000 + (n : Int) % 1000 := IntWalk.i64_in _ (by omega)
  have k5 : (1 : Int) ≤ (t2.size : Int) := by omega
  have k6 : ((t2.size : Int)).toNat = t2.size := by omega
  clear e1 e2
  go_enter Tryz.func152, Tryz.ntmps152
  go_wp2_with fail
  refine (K1.out _).mono ?_
  rintro e w1 ⟨rfl, hb1⟩
  go_wp2_with fail
  refine (K2.out _).mono ?_
  rintro e w2 ⟨rfl, hb2⟩
  go_wp2
  go_ret
  exact ⟨rfl, below_then hb1 hb2⟩
def Res2 (w : World) (x y : Int) (e : Ending) (w' : World) : Prop := e = .returned (.agg #[.int .i64 x, .int .i64 y]) ∧ Below w.heap.size w w'
set_option maxHeartbeats 800000 in
theorem specThousandthsOf_any (n : Int) (w : World) : Calls Tryz.prog 153 #[.int .i64 n] w (Res2 w (thouCode n) (thouVal n)) := by
  unfold thouCode thouVal
  cases h : inB n 0 127
  · go_enter Tryz.func153, Tryz.ntmps153
    go_wp2_with fail
    refine (l1In_any _ _ _ _).mono ?_
    rw [h]
    rintro e w1 ⟨rfl, rfl⟩
    go_wp2
    exact bodyPost_ret (v := .agg #[.int .i64 3, .int .i64 0]) (by simp [results, Tryz.results153, go_sem]) rfl ⟨rfl, below1 w _⟩
  · have hb : 0 ≤ n ∧ n ≤ 127 := by simpa [inB] using h
    obtain ⟨h0, h1⟩ := hb
    have k1 : IntKind.i64.wrap (1000 * n) = 1000 * n := IntWalk.i64_in _ (by omega)
    have k2 : IntKind.i64.wrap (1000 * n + 63) = 1000 * n + 63 := IntWalk.i64_in _ (by omega)
    have k3 : (1000 * n + 63).tdiv 127 = (1000 * n + 63) / 127 := Int.tdiv_eq_ediv_of_nonneg (by omega)
    have k4 : IntKind.i64.wrap ((1000 * n + 63) / 127) = (1000 * n + 63) / 127 := IntWalk.i64_in _ (by omega)
    simp only [if_true]
    go_enter Tryz.func153, Tryz.ntmps153
    go_wp2_with fail
    refine (l1In_any _ _ _ _).mono ?_
    rw [h]
    rintro e w1 ⟨rfl, rfl⟩
    clear h
    go_wp2
    exact bodyPost_ret (v := .agg #[.int .i64 0, .int .i64 ((1000 * n + 63) / 127)]) (by simp [results, Tryz.results153, go_sem]) rfl ⟨rfl, below1 w _⟩
end Go.Proofs.YtcaknhoaoodbfaaGreatDoor
