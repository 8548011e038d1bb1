/- spec.l7Leaf. -/
import Derived.Test.YticpebpicdboaaaGreatDoorGQ14
import Derived.IntWalk
import Derived.Test.YticpebpicdboaaaGreatDoorGQ1
import Derived.Lib.IndexBytes
namespace Go.Proofs.YticpebpicdboaaaGreatDoor
open Go.ChangeShapes Go.WideShapes Go.ChangeAt Go.RowKit
set_option linter.unusedVariables false

theorem grown_made {w : World} (o : Obj) (r : Option Nat) : w.grownBy (w.alloc o) r := (fun h => ⟨h.os, h.tape, h.output, h.size, fun i hi _ => h.block i hi⟩ : Below w.heap.size w (w.alloc o) → _) (below1 w o)
theorem grown_in {a b c : World} {x : Option Nat} {g : Nat} (h : a.grownBy b x) (hg : b.grownBy c (some g)) (hr : a.heap.size ≤ g) : a.grownBy c x :=
  ⟨hg.os.trans h.os, hg.tape.trans h.tape, hg.output.trans h.output, Nat.le_trans h.size hg.size, fun i hi hne => (hg.block i (Nat.lt_of_lt_of_le hi h.size) (fun e => by cases e; omega)).trans (h.block i hi hne)⟩
set_option maxRecDepth 100000 in
set_option maxHeartbeats 3200000 in
theorem l7Leaf_any (B : Nat) (a : Option Addr) (n c : Nat) (l : List It) (A : Nat → Option Addr) (N C : Nat → Nat) (d : Int) (sp nm t : ByteArray) (w : World) (hB : B ≤ w.heap.size) (hn : n ≤ 1000) (hd : -1000 ≤ d ∧ d ≤ 1000) (h : GrowIts w B (.slice a n c) n l A N C) :
    Calls Tryz.prog 75 #[.slice a n c, .int .i64 d, .string sp, .string nm, .string t] w (GrownRes w B (.slice a n c) (l ++ leafL d sp nm t)) := by
  obtain ⟨i0, hi, hz0, hi1, hz2⟩ := info_parts itemInfo
  have hw1 : IntKind.i64.wrap (d + 1) = d + 1 := IntWalk.i64_in _ (by omega)
  have hw2 : wrap64 (d + 1) = d + 1 := IntWalk.wrap64_in _ (by omega)
  have H := Lib.hid h
  unfold GrownRes leafL
  obtain ⟨tl, ht⟩ : ∃ tl, (if t.toList.isEmpty then [] else [(⟨d + 1, t, ByteArray.empty, ByteArray.empty, []⟩ : It)]) = tl := ⟨_, rfl⟩
  rw [ht]
  have HTL := Lib.hid ht
  clear h ht
  go_enter Tryz.func75, Tryz.ntmps75
  go_wp2_with (at_builtin; refine wpList_append_own_at _ rfl _ _ 24 rfl B 77 i0 (.agg #[.int .i64 0, .string ByteArray.empty, .string ByteArray.empty, .string ByteArray.empty, .slice none 0 0]) 5 80 Tryz.underlying24 hi hz0 hi1 hz2 rfl (by decide) _ n _ rfl (H.out.row.alloc _) ⟨w.heap.size, 0, none⟩ 1 1 [.int .i64 d, .string ⟨#[]⟩, .string sp, .string nm, .slice none 0 0] rfl rfl ?c1 ?c2 ?c3 ?c4 ?c5 ?_)
  case c1 => exact fun j u hj => itemCells w _ _ _ _ _ j u hj
  case c2 => intro v hv; simp at hv; rcases hv with rfl | rfl | rfl | rfl | rfl <;> rfl
  case c3 => unfold maxLen; omega
  case c4 => omega
  case c5 => simp; omega
  intro v' w1 hown hgr _ hat
  obtain ⟨a1, c1, rfl⟩ := owns_slice hown
  have G1 := Lib.hid (H.out.snoc (x := ⟨d, ⟨#[]⟩, sp, nm, []⟩) (below1 w (.cells #[.int .i64 d, .string ⟨#[]⟩, .string sp, .string nm, .slice none 0 0] 77)) (bareAts _ _ _) (fun _ => rfl) hB hown hgr (hat.imp id fun e => ⟨w.heap.size + 1, by simpa using e, by simp⟩))
  have E1 := Lib.hid (grown_trans_row (grown_made (w := w) (.cells #[.int .i64 d, .string ⟨#[]⟩, .string sp, .string nm, .slice none 0 0] 77) (Value.slice a n c).ownBlock) hgr)
  have T1 := Lib.hid (hat.imp id fun e => (⟨w.heap.size + 1, by simpa using e, by omega⟩ : ∃ g, (Value.slice a1 (n + 1) c1).ownBlock = some g ∧ w.heap.size ≤ g))
  have hz1 : w.heap.size + 1 ≤ w1.heap.size := by have := hgr.size; simpa using this
  clear hown hgr hat
  cases he : t.toList.isEmpty
  · go_wp2_with (at_builtin; refine wpList_append_own_at _ rfl _ _ 24 rfl B 77 i0 (.agg #[.int .i64 0, .string ByteArray.empty, .string ByteArray.empty, .string ByteArray.empty, .slice none 0 0]) 5 80 Tryz.underlying24 hi hz0 hi1 hz2 rfl (by decide) _ (n + 1) _ rfl (G1.out.row.alloc _) ⟨w1.heap.size, 0, none⟩ 1 1 [.int .i64 (d + 1), .string t, .string ⟨#[]⟩, .string ⟨#[]⟩, .slice none 0 0] rfl rfl ?c1 ?c2 ?c3 ?c4 ?c5 ?_)
    case c1 => exact fun j u hj => itemCells w1 _ _ _ _ _ j u hj
    case c2 => intro v hv; simp at hv; rcases hv with rfl | rfl | rfl | rfl | rfl <;> rfl
    case c3 => unfold maxLen; omega
    case c4 => omega
    case c5 => simp; omega
    intro v' w2 hown hgr _ hat
    obtain ⟨a2, c2, rfl⟩ := owns_slice hown
    have G2 := Lib.hid (G1.out.snoc (x := ⟨d + 1, t, ⟨#[]⟩, ⟨#[]⟩, []⟩) (below1 w1 (.cells #[.int .i64 (d + 1), .string t, .string ⟨#[]⟩, .string ⟨#[]⟩, .slice none 0 0] 77)) (bareAts _ _ _) (fun _ => rfl) (by omega) hown hgr (hat.imp id fun e => ⟨w1.heap.size + 1, by simpa using e, by simp⟩))
    have E2 : Hid (w.grownBy w2 (Value.slice a n c).ownBlock) := Lib.hid (by
      have hg2 := grown_trans_row (grown_made (w := w1) (.cells #[.int .i64 (d + 1), .string t, .string ⟨#[]⟩, .string ⟨#[]⟩, .slice none 0 0] 77) (Value.slice a1 (n + 1) c1).ownBlock) hgr
      rcases T1.out with e | ⟨g, e, hg⟩
      · rw [e] at hg2
        exact grown_trans_row E1.out hg2
      · rw [e] at hg2
        exact grown_in E1.out hg2 hg)
    have T2 : Hid ((Value.slice a2 (n + 1 + 1) c2).ownBlock = (Value.slice a n c).ownBlock ∨ ∃ g, (Value.slice a2 (n + 1 + 1) c2).ownBlock = some g ∧ w.heap.size ≤ g) := Lib.hid (by
      rcases hat with e | e
      · rw [e]; exact T1.out
      · exact .inr ⟨w1.heap.size + 1, by simpa using e, by omega⟩)
    clear hown hgr hat
    go_wp2
    go_ret
    have G3 := G2.out
    have htl := HTL.out
    rw [if_neg (by rw [he]; simp)] at htl
    rw [← htl]
    rw [List.append_assoc] at G3
    exact ⟨_, _, _, _, _, _, rfl, G3, E2.out, T2.out⟩
  · go_wp2
    go_ret
    have htl := HTL.out
    rw [if_pos he] at htl
    rw [← htl]
    exact ⟨_, _, _, _, _, _, rfl, G1.out, E1.out, T1.out⟩
end Go.Proofs.YticpebpicdboaaaGreatDoor

/- Rows of texts. -/
namespace Go.Proofs.YticpebpicdboaaaGreatDoor
open Go.ChangeShapes Go.WideShapes Go.ChangeAt Go.RowKit
set_option linter.unusedVariables false

/-- A slice value that reads as these texts. -/
def RowS (w : World) (v : Value) (ts : List ByteArray) : Prop :=
  (v = .slice none 0 0 ∧ ts = []) ∨ ∃ b o cap, v = .slice (some ⟨b, o, none⟩) ts.length cap ∧ ts.length ≤ cap ∧ cap ≤ maxLen ∧ b < w.heap.size ∧ ∀ i, i < ts.length → w.cell? ⟨b, o + i, none⟩ = some (.string (ts.getD i ByteArray.empty))
theorem RowS.of_owns {w : World} {base : Nat} {e : TypeId} {v : Value} {n : Nat} {ts : List ByteArray} (h : w.ownsRow base e 1 v n (ts.map Value.string)) : RowS w v ts := by
  have hl : ts.length = n := by have := h.1; simpa using this
  subst hl
  rcases h.2 with ⟨hv, hn⟩ | ⟨g, cap, cur, hv, hg, hh, hnc, hm, hs, ht⟩
  · have : ts = [] := List.length_eq_zero_iff.1 hn
    subst this
    exact .inl ⟨hv, rfl⟩
  · subst hv
    have hlt := (h.lt g rfl).2
    refine .inr ⟨g, 0, cap, rfl, hnc, hm, hlt, fun i hi => ?_⟩
    rw [Nat.zero_add, h.cellAt i (by omega), List.getElem?_map, List.getElem?_eq_getElem hi, List.getD_eq_getElem?_getD, List.getElem?_eq_getElem hi]
    rfl
theorem RowS.below {w w' : World} {v : Value} {ts : List ByteArray} (h : RowS w v ts) (hb : Below w.heap.size w w') : RowS w' v ts := by
  rcases h with h | ⟨b, o, cap, hv, h1, h2, h3, h4⟩
  · exact .inl h
  · exact .inr ⟨b, o, cap, hv, h1, h2, Nat.lt_of_lt_of_le h3 hb.size, fun i hi => (hb.cell (by exact h3)).trans (h4 i hi)⟩
theorem ownsS_length {w : World} {base : Nat} {e : TypeId} {v : Value} {n : Nat} {ts : List ByteArray} (h : w.ownsRow base e 1 v n (ts.map Value.string)) : n = ts.length := by
  have := h.1
  simpa using this.symm

theorem strInfo : (Tryz.prog.info? 9).map (fun i => (i.zero, i.size, i.bytes)) = some (some (.string ByteArray.empty), 1, 16) := by kernel_rfl
theorem strCells1 (W : World) (t : ByteArray) (j : Nat) (u : Value) (hj : [Value.string t][j]? = some u) : ((W.alloc (.cells #[.string t] 9))).cell? (Addr.add ⟨W.heap.size, 0, none⟩ j) = some u := by
  match j, hj with
  | 0, hj => simp at hj; subst hj; simp [Addr.add]
theorem ownsDrew {w : World} {base : Nat} {e : TypeId} {size : Nat} {v : Value} {n : Nat} {xs : List Value} (h : w.ownsRow base e size v n xs) : w.drew.ownsRow base e size v n xs := h
theorem grownDrew {w w1 : World} {r : Option Nat} (h : w.drew.grownBy w1 r) : w.grownBy w1 r := ⟨h.os, h.tape, h.output, h.size, h.block⟩

/-- a new row of texts is handed back -/
def OwnsStr (w : World) (ts : List ByteArray) (en : Ending) (w' : World) : Prop :=
  ∃ a c, en = .returned (.slice a ts.length c) ∧ w'.ownsRow w.heap.size 9 1 (.slice a ts.length c) ts.length (ts.map Value.string) ∧ Below w.heap.size w w'

end Go.Proofs.YticpebpicdboaaaGreatDoor

/- The words of kinds and of shows, in plain words. -/
namespace Go.Proofs.YticpebpicdboaaaGreatDoor
open Go.ChangeShapes Go.WideShapes Go.ChangeAt Go.RowKit
set_option linter.unusedVariables false

def kindWs : List ByteArray := [⟨#[]⟩, ⟨#[117, 110, 97, 118, 97, 105, 108, 97, 98, 108, 101]⟩, ⟨#[115, 117, 98, 115, 99, 114, 105, 98, 101]⟩, ⟨#[115, 117, 98, 115, 99, 114, 105, 98, 101, 100]⟩, ⟨#[117, 110, 115, 117, 98, 115, 99, 114, 105, 98, 101]⟩, ⟨#[117, 110, 115, 117, 98, 115, 99, 114, 105, 98, 101, 100]⟩, ⟨#[112, 114, 111, 98, 101]⟩]
def kindW (k : Int) : ByteArray := kindWs.getD k.toNat ByteArray.empty
def showWs : List ByteArray := [⟨#[]⟩, ⟨#[97, 119, 97, 121]⟩, ⟨#[99, 104, 97, 116]⟩, ⟨#[100, 110, 100]⟩, ⟨#[120, 97]⟩]
def showW (k : Int) : ByteArray := showWs.getD k.toNat ByteArray.empty
theorem kinds_row {w w' : World} (hz : w.heap.size < w'.heap.size) (c0 : w'.cell? ⟨w.heap.size, 0, none⟩ = some (.string (kindWs.getD 0 ByteArray.empty))) (c1 : w'.cell? ⟨w.heap.size, 1, none⟩ = some (.string (kindWs.getD 1 ByteArray.empty))) (c2 : w'.cell? ⟨w.heap.size, 2, none⟩ = some (.string (kindWs.getD 2 ByteArray.empty))) (c3 : w'.cell? ⟨w.heap.size, 3, none⟩ = some (.string (kindWs.getD 3 ByteArray.empty)))
    (c4 : w'.cell? ⟨w.heap.size, 4, none⟩ = some (.string (kindWs.getD 4 ByteArray.empty))) (c5 : w'.cell? ⟨w.heap.size, 5, none⟩ = some (.string (kindWs.getD 5 ByteArray.empty))) (c6 : w'.cell? ⟨w.heap.size, 6, none⟩ = some (.string (kindWs.getD 6 ByteArray.empty))) : RowS w' (.slice (some ⟨w.heap.size, 0, none⟩) 7 7) kindWs := by
  refine .inr ⟨w.heap.size, 0, 7, rfl, by decide, by decide, hz, fun i hi => ?_⟩
  have h7 : i < 7 := hi
  rw [Nat.zero_add]
  match i, h7 with
  | 0, _ => exact c0
  | 1, _ => exact c1
  | 2, _ => exact c2
  | 3, _ => exact c3
  | 4, _ => exact c4
  | 5, _ => exact c5
  | 6, _ => exact c6
theorem shows_row {w w' : World} (hz : w.heap.size < w'.heap.size) (c0 : w'.cell? ⟨w.heap.size, 0, none⟩ = some (.string (showWs.getD 0 ByteArray.empty))) (c1 : w'.cell? ⟨w.heap.size, 1, none⟩ = some (.string (showWs.getD 1 ByteArray.empty))) (c2 : w'.cell? ⟨w.heap.size, 2, none⟩ = some (.string (showWs.getD 2 ByteArray.empty))) (c3 : w'.cell? ⟨w.heap.size, 3, none⟩ = some (.string (showWs.getD 3 ByteArray.empty)))
    (c4 : w'.cell? ⟨w.heap.size, 4, none⟩ = some (.string (showWs.getD 4 ByteArray.empty))) : RowS w' (.slice (some ⟨w.heap.size, 0, none⟩) 5 5) showWs := by
  refine .inr ⟨w.heap.size, 0, 5, rfl, by decide, by decide, hz, fun i hi => ?_⟩
  have h5 : i < 5 := hi
  rw [Nat.zero_add]
  match i, h5 with
  | 0, _ => exact c0
  | 1, _ => exact c1
  | 2, _ => exact c2
  | 3, _ => exact c3
  | 4, _ => exact c4
/-- the code and the text of a word -/
def kindC (k : Int) : Int := if inB k 0 6 then 0 else 3
def kindT (k : Int) : ByteArray := if inB k 0 6 then kindW k else ByteArray.empty

/-- the code and the text of a word -/
def showC (k : Int) : Int := if inB k 0 4 then 0 else 3
def showT (k : Int) : ByteArray := if inB k 0 4 then showW k else ByteArray.empty

end Go.Proofs.YticpebpicdboaaaGreatDoor

/- Numbers in digits: the model's l1Digits. -/
namespace Go.Proofs.YticpebpicdboaaaGreatDoor
open Go.ChangeShapes Go.WideShapes Go.ChangeAt Go.RowKit
set_option linter.unusedVariables false

/-- a number in digits -/
def digT (n : Nat) : ByteArray := if n < 10 then strOfNums [48 + (n : Int)] else digT (n / 10) ++ strOfNums [48 + (n : Int) % 10]
theorem digT_small {n : Nat} (h : n < 10) : digT n = strOfNums [48 + (n : Int)] := by rw [digT, if_pos h]
theorem digT_big {n : Nat} (h : ¬ n < 10) : digT n = digT (n / 10) ++ strOfNums [48 + (n : Int) % 10] := by rw [digT, if_neg h]

theorem digT_size : ∀ (k n : Nat), n < 10 ^ (k + 1) → (digT n).size ≤ k + 1
  | 0, n, h => by
    rw [digT_small (by simpa using h), strOfNums_size]
    simp
  | k + 1, n, h => by
    by_cases h1 : n < 10
    · rw [digT_small h1, strOfNums_size]
      simp
    · have h2 : n / 10 < 10 ^ (k + 1) := by
        rw [Nat.div_lt_iff_lt_mul (by decide)]
        rw [Nat.pow_succ] at h
        exact h
      have h3 := digT_size k (n / 10) h2
      rw [digT_big h1, ByteArray.size_append, strOfNums_size]
      simp
      omega
theorem digT_size19 {n : Nat} (h : (n : Int) ≤ 9223372036854775807) : (digT n).size ≤ 19 := by
  have h2 : (10 : Nat) ^ (18 + 1) = 10000000000000000000 := by decide
  exact digT_size 18 n (by rw [h2]; omega)
theorem digT_pos (n : Nat) : 1 ≤ (digT n).size := by
  by_cases h : n < 10
  · rw [digT_small h, strOfNums_size]; simp
  · rw [digT_big h, ByteArray.size_append, strOfNums_size]; simp
theorem row1 (W : World) (c : Int) : Row (W.alloc (.cells #[.int .u8 c] 5)) .u8 (.slice (some ⟨W.heap.size, 0, none⟩) 1 1) [c] :=
  .inr ⟨W.heap.size, 0, 1, rfl, by simp, by unfold maxLen; omega, by simp, fun i hi => match i, hi with | 0, _ => by simp⟩
theorem conv1 {W : World} {b : Nat} {c : Int} (h : Row W .u8 (.slice (some ⟨b, 0, none⟩) 1 1) [c]) : (convert 22 9 (.slice (some ⟨b, 0, none⟩) 1 1)).run Tryz.prog W = .ok (.string (strOfNums [c])) W :=
  conv_row (P := Tryz.prog) W Tryz.underlying22 Tryz.underlying5 Tryz.underlying9 h
/-- a text is handed back, and memory made -/
def TextB (s : ByteArray) (w : World) (e : Ending) (w' : World) : Prop := e = .returned (.string s) ∧ Below w.heap.size w w'

set_option maxRecDepth 100000 in
set_option maxHeartbeats 800000 in
theorem l1Digits_any (n : Nat) : (n : Int) ≤ 9223372036854775807 → ∀ w, Calls Tryz.prog 226 #[.int .i64 n] w (TextB (digT n) w) := by
  induction n using Nat.strongRecOn with
  | ind n ih =>
    intro hb w
    unfold TextB
    by_cases h : n < 10
    · rw [digT_small h]
      have h' : (n : Int) < 10 := by omega
      have hcv := conv1 (row1 w (48 + (n : Int)))
      clear ih hb h
      go_enter Tryz.func226, Tryz.ntmps226
      go_wp2
      go_ret
      exact ⟨rfl, below1 _ _⟩
    · have K := Lib.hid (ih (n / 10) (by omega) (by omega))
      unfold TextB at K
      rw [digT_big h]
      have e : ((n / 10 : Nat) : Int) = (n : Int) / 10 := by omega
      rw [e] at K
      have hsz := digT_size19 (n := n / 10) (by omega)
      generalize digT (n / 10) = t at K hsz ⊢
      have h' : 10 ≤ (n : Int) := by omega
      have q1 : 0 ≤ (n : Int) % 10 := by omega
      have q2 : (n : Int) % 10 < 10 := by omega
      have hs1 : (strOfNums [48 + (n : Int) % 10]).size ≤ 1 := by rw [strOfNums_size]; simp
      have hr0 := Lib.hid (row1 w (48 + (n : Int) % 10))
      have hcv0 := conv1 (W := (w.alloc (.cells #[.int .u8 (48 + (n : Int) % 10)] 5)).drew) (hr0.out.drewN 1)
      have k1 : IntKind.i64.wrap ((n : Int) / 10) = (n : Int) / 10 := IntWalk.i64_in _ (by omega)
      have k2 : (n : Int).tmod 10 = (n : Int) % 10 := Int.tmod_eq_emod_of_nonneg (by omega)
      have k3 : IntKind.i64.wrap (48 + (n : Int) % 10) = 48 + (n : Int) % 10 := IntWalk.i64_in _ (by omega)
      have k4 : IntKind.u8.wrap (48 + (n : Int) % 10) = 48 + (n : Int) % 10 := IntWalk.u8_in _ (by omega)
      clear ih h e
      go_enter Tryz.func226, Tryz.ntmps226
      go_wp2
      go_region_with (go_at_call 226; refine (K.out _).mono ?_; rintro e w1 ⟨rfl, hb1⟩; have hcv1 := conv1 (row1 w1 (48 + (n : Int) % 10)); try (have hcv2 := conv1 ((hr0.out.drewN 1).below hb1)))
      all_goals
        go_wp2
        go_ret
        first
          | exact ⟨rfl, (below_of_drew hb1).alloc (below_of_drew hb1).size _⟩
          | exact ⟨rfl, ((below1 w _).drew).trans (hb1.mono (by simp))⟩
theorem dig_data (x : Nat) (h : x < 10) : (strOfNums [48 + (x : Int)]).data.toList = [UInt8.ofNat (48 + x)] := by
  rw [strOfNums_data]
  simp only [List.map_cons, List.map_nil]
  rw [show (48 + (x : Int)).toNat = 48 + x by omega]
theorem digT_data {n : Nat} (h : ¬ n < 10) : (digT n).data.toList = (digT (n / 10)).data.toList ++ [UInt8.ofNat (48 + n % 10)] := by
  rw [digT_big h, ByteArray.data_append, Array.toList_append]
  have e : (48 + (n : Int) % 10) = 48 + ((n % 10 : Nat) : Int) := by omega
  rw [e, dig_data _ (by omega)]
end Go.Proofs.YticpebpicdboaaaGreatDoor
