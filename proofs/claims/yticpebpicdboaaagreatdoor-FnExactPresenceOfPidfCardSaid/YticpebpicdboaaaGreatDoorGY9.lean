/- The tree of another format, in plain words. -/
import Derived.Test.YticpebpicdboaaaGreatDoorGY8
import Derived.Test.YticpebpicdboaaaGreatDoorGY0
namespace Go.Proofs.YticpebpicdboaaaGreatDoor
open Go.ChangeShapes Go.WideShapes Go.ChangeAt Go.RowKit
set_option linter.unusedVariables false

def pidfSp : ByteArray := ⟨#[117, 114, 110, 58, 105, 101, 116, 102, 58, 112, 97, 114, 97, 109, 115, 58, 120, 109, 108, 58, 110, 115, 58, 112, 105, 100, 102]⟩
def rpidSp : ByteArray := ⟨#[117, 114, 110, 58, 105, 101, 116, 102, 58, 112, 97, 114, 97, 109, 115, 58, 120, 109, 108, 58, 110, 115, 58, 112, 105, 100, 102, 58, 114, 112, 105, 100]⟩
def presNm : ByteArray := ⟨#[112, 114, 101, 115, 101, 110, 99, 101]⟩
def entityNm : ByteArray := ⟨#[101, 110, 116, 105, 116, 121]⟩
def presP : ByteArray := ⟨#[112, 114, 101, 115, 58]⟩
def tupleNm : ByteArray := ⟨#[116, 117, 112, 108, 101]⟩
def idNm : ByteArray := ⟨#[105, 100]⟩
def tT : ByteArray := ⟨#[116]⟩
def stNm : ByteArray := ⟨#[115, 116, 97, 116, 117, 115]⟩
def basicNm : ByteArray := ⟨#[98, 97, 115, 105, 99]⟩
def openT : ByteArray := ⟨#[111, 112, 101, 110]⟩
def closedT : ByteArray := ⟨#[99, 108, 111, 115, 101, 100]⟩
def actNm : ByteArray := ⟨#[97, 99, 116, 105, 118, 105, 116, 105, 101, 115]⟩
def awayNm : ByteArray := ⟨#[97, 119, 97, 121]⟩
def busyNm : ByteArray := ⟨#[98, 117, 115, 121]⟩
def contNm : ByteArray := ⟨#[99, 111, 110, 116, 97, 99, 116]⟩
def prioKey : ByteArray := ⟨#[112, 114, 105, 111, 114, 105, 116, 121]⟩
def xmppP : ByteArray := ⟨#[120, 109, 112, 112, 58]⟩
def noteNm : ByteArray := ⟨#[110, 111, 116, 101]⟩
def elemI (d : Int) (sp nm : ByteArray) (es : List At) : It := ⟨d, ⟨#[]⟩, sp, nm, es⟩
def textI (d : Int) (t : ByteArray) : It := ⟨d, t, ⟨#[]⟩, ⟨#[]⟩, []⟩
def basicW (k : Int) : ByteArray := if k = 1 then closedT else openT
def actW (s : Int) : ByteArray := if s = 3 then busyNm else awayNm
def rootP8 (f : ByteArray) : It := elemI 0 pidfSp presNm [⟨entityNm, presP ++ f⟩]
def headP8 (f : ByteArray) (k : Int) : List It := [rootP8 f, elemI 1 pidfSp tupleNm [⟨idNm, tT⟩], elemI 2 pidfSp stNm [], elemI 3 pidfSp basicNm [], textI 4 (basicW k)]
def actsP8 (s : Int) : List It := if s = 0 then [] else [elemI 2 rpidSp actNm [], elemI 3 rpidSp (actW s) []]
def contP8 (f : ByteArray) (p : Int) : List It := if p = 0 then [] else [elemI 2 pidfSp contNm [⟨prioKey, shareText (thouVal p)⟩], textI 3 (xmppP ++ f)]
def noteP8 (u : ByteArray) : List It := if u.toList.isEmpty then [] else [elemI 2 pidfSp noteNm [], textI 3 u]
/-- the tree of a presence that is its own projection -/
def pidfL (q : Pr) : List It := ((headP8 q.sender q.kind ++ actsP8 q.shown) ++ contP8 q.sender q.prio) ++ noteP8 q.status
def pidfT (p : Pr) : List It := if projCode p = 0 then pidfL (proj p) else []
theorem pidf_few (p : Pr) : ∀ x ∈ pidfT p, x.attrs.length ≤ 1 := by
  intro x hx
  unfold pidfT at hx
  split at hx
  · unfold pidfL at hx
    rw [List.mem_append, List.mem_append, List.mem_append] at hx
    rcases hx with ((hx | hx) | hx) | hx
    · unfold headP8 at hx
      simp only [List.mem_cons, List.not_mem_nil, or_false] at hx
      rcases hx with rfl | rfl | rfl | rfl | rfl <;> first | exact Nat.le_refl 1 | exact Nat.zero_le 1
    · unfold actsP8 at hx
      split at hx
      · cases hx
      · simp only [List.mem_cons, List.not_mem_nil, or_false] at hx
        rcases hx with rfl | rfl <;> first | exact Nat.le_refl 1 | exact Nat.zero_le 1
    · unfold contP8 at hx
      split at hx
      · cases hx
      · simp only [List.mem_cons, List.not_mem_nil, or_false] at hx
        rcases hx with rfl | rfl <;> first | exact Nat.le_refl 1 | exact Nat.zero_le 1
    · unfold noteP8 at hx
      split at hx
      · cases hx
      · simp only [List.mem_cons, List.not_mem_nil, or_false] at hx
        rcases hx with rfl | rfl <;> first | exact Nat.le_refl 1 | exact Nat.zero_le 1
  · cases hx
end Go.Proofs.YticpebpicdboaaaGreatDoor

/- markText. -/
namespace Go.Proofs.YticpebpicdboaaaGreatDoor
open Go.ChangeShapes Go.WideShapes Go.ChangeAt Go.RowKit
set_option linter.unusedVariables false

/-- k's digits ahead of out -/
def digM (k : Nat) (out : ByteArray) : ByteArray := if h : k = 0 then out else digM (k / 10) (strOfNums [48 + (k : Int) % 10] ++ out)
termination_by k
decreasing_by omega
theorem digM_zero (out : ByteArray) : digM 0 out = out := by rw [digM]; rfl
theorem digM_pos {k : Nat} (h : 0 < k) (out : ByteArray) : digM k out = digM (k / 10) (strOfNums [48 + (k : Int) % 10] ++ out) := by rw [digM, dif_neg (by omega)]
/-- the text of a mark -/
def markT (k : Nat) : ByteArray := { data := #[109] } ++ digM k ByteArray.empty

set_option maxRecDepth 100000 in
set_option maxHeartbeats 1600000 in
theorem markText_any (k : Nat) (h0 : 0 < k) (h1 : k ≤ 1000000000000000000) (w : World) :
    Calls Tryz.prog 132 #[.int .i64 k] w fun e w' => e = .returned (.string (markT k)) ∧ Below w.heap.size w w' := by
  obtain ⟨D, hD⟩ : ∃ D, digM k ByteArray.empty = D := ⟨_, rfl⟩
  unfold markT
  rw [hD]
  have HD := Lib.hid hD
  clear hD
  have k1 : (0 : Int) < (k : Int) := by omega
  go_enter Tryz.func132, Tryz.ntmps132
  go_wp2
  go_loopw [0, 3] (fun v s wr => ∃ (j : Nat) (out : ByteArray), out.size + j ≤ k ∧ v = .int .i64 j ∧ s = .string out ∧ digM j out = D ∧ Below w.heap.size w wr) (fun v _ _ => (intOf v).toNat)
  case atStart => exact ⟨k, ByteArray.empty, by simp, rfl, rfl, HD.out, Below.refl _ _⟩
  case round =>
    obtain ⟨j, out, hj, rfl, rfl, hd, hb⟩ := hrel
    by_cases hj0 : 0 < j
    · have HD2 := Lib.hid ((digM_pos hj0 out).symm.trans hd)
      have HB := Lib.hid hb
      have r0 : (0 : Int) ≤ (j : Int) % 10 := by omega
      have r1 : (j : Int) % 10 < 10 := by omega
      have r2 : (0 : Int) ≤ (j : Int) / 10 := by omega
      have r3 : (j : Int) / 10 ≤ (j : Int) := by omega
      have hcv := fun (c : Int) => conv_row (P := Tryz.prog) (wr.alloc (.cells #[.int .u8 c] 5)) Tryz.underlying22 Tryz.underlying5 Tryz.underlying9 (a := some ⟨wr.heap.size, 0, none⟩) (n := 1) (c := 1) (xs := [c])
        (.inr ⟨wr.heap.size, 0, 1, rfl, by simp, by unfold maxLen; omega, by simp, fun i hi => match i, hi with | 0, _ => by simp⟩)
      have hsz : (strOfNums [48 + (j : Int) % 10]).size ≤ 1 := by rw [strOfNums_size]; simp
      clear hd hb
      go_wp2
      go_roundw
      case rel => exact ⟨j / 10, _, by rw [ByteArray.size_append]; omega, by go_num, rfl, HD2.out, HB.out.trans (((Below.refl _ _).alloc (Nat.le_refl _) _).mono HB.out.size)⟩
      case measure => simp [intOf]; omega
    · obtain rfl : j = 0 := by omega
      rw [digM_zero] at hd
      subst hd
      go_wp2
      go_ret
      exact ⟨rfl, hb⟩
theorem markText_succ (k : Nat) (h1 : k + 1 ≤ 1000000000000000000) (w : World) :
    Calls Tryz.prog 132 #[.int .i64 ((k : Int) + 1)] w fun e w' => e = .returned (.string (markT (k + 1))) ∧ Below w.heap.size w w' := by
  have h := markText_any (k + 1) (by omega) h1 w
  rwa [Int.natCast_add, Int.natCast_one] at h
theorem markText_at (k i : Nat) (h0 : 0 < k + i) (h1 : k + i ≤ 1000000000000000000) (w : World) :
    Calls Tryz.prog 132 #[.int .i64 ((k : Int) + (i : Int))] w fun e w' => e = .returned (.string (markT (k + i))) ∧ Below w.heap.size w w' := by
  have h := markText_any (k + i) h0 h1 w
  rwa [Int.natCast_add] at h
end Go.Proofs.YticpebpicdboaaaGreatDoor

/- Rooms: cells of one's own. -/
namespace Go.Proofs.YticpebpicdboaaaGreatDoor
open Go.ChangeShapes Go.WideShapes Go.ChangeAt Go.RowKit
set_option linter.unusedVariables false

theorem below3 (w : World) (o1 o2 o3 : Obj) : Below w.heap.size w (((w.alloc o1).alloc o2).alloc o3) := (((Below.refl _ _).alloc (Nat.le_refl _) _).alloc (by simp) _).alloc (by simp; omega) _


theorem below_made {w w1 : World} (h : w.grownBy w1 none) : Below w.heap.size w w1 := ⟨h.os, h.tape, h.output, h.size, fun i hi => h.block i hi (by simp)⟩


/-- m cells in block b, not frozen -/
def Room (w : World) (b m : Nat) : Prop := b < w.heap.size ∧ ∀ i, i < m → (∃ v, w.cell? ⟨b, i, none⟩ = some v) ∧ w.frozen? ⟨b, i, none⟩ = false
theorem Room.below {w w' : World} {b m : Nat} (h : Room w b m) (hb : Below w.heap.size w w') : Room w' b m :=
  ⟨Nat.lt_of_lt_of_le h.1 hb.size, fun i hi => ⟨(h.2 i hi).1.imp fun v hv => (hb.cell (p := ⟨b, i, none⟩) h.1).trans hv, (hb.frozen (p := ⟨b, i, none⟩) h.1).trans (h.2 i hi).2⟩⟩
theorem room_made {w : World} {base : Nat} {e : TypeId} {size n g cap : Nat} {xs : List Value} (h : w.ownsRow base e size (.slice (some ⟨g, 0, none⟩) n cap) n xs) : Room w g (n * size) := by
  refine ⟨(h.lt g rfl).2, fun i hi => ⟨?_, h.frozenAt i⟩⟩
  rw [h.cellAt i hi]
  have := h.1
  exact ⟨xs[i]'(by omega), List.getElem?_eq_getElem (by omega)⟩

theorem Room.set {w : World} {b m : Nat} (h : Room w b m) (p : Addr) (v : Value) : Room (w.setCell p v) b m :=
  ⟨by simpa using h.1, fun i hi => ⟨by obtain ⟨v', hv⟩ := (h.2 i hi).1; exact cell?_setCell_some hv, by rw [World.frozen?_setCell]; exact (h.2 i hi).2⟩⟩
theorem Room.put {w : World} {b m i : Nat} (h : Room w b m) (hi : i < m) (v : Value) : (w.setCell ⟨b, i, none⟩ v).cell? ⟨b, i, none⟩ = some v := by
  obtain ⟨u, hu⟩ := (h.2 i hi).1
  exact World.cell?_setCell_same _ _ _ hu
theorem set_off {w : World} {b i j : Nat} {v : Value} (h : i ≠ j) : (w.setCell ⟨b, i, none⟩ v).cell? ⟨b, j, none⟩ = w.cell? ⟨b, j, none⟩ := World.cell?_setCell_other _ _ _ _ (fun e => absurd (congrArg Addr.off e) h)
end Go.Proofs.YticpebpicdboaaaGreatDoor

/- Rooms: cells of one's own, attributes and items laid into them. -/
namespace Go.Proofs.YticpebpicdboaaaGreatDoor
open Go.ChangeShapes Go.WideShapes Go.ChangeAt Go.RowKit
set_option linter.unusedVariables false

theorem attrInfo : (Tryz.prog.info? 75).map (fun i => (i.zero, i.size, i.bytes)) = some (some (.agg #[.string ByteArray.empty, .string ByteArray.empty]), 2, 32) := by kernel_rfl
theorem itemInfo : (Tryz.prog.info? 77).map (fun i => (i.zero, i.size, i.bytes)) = some (some (.agg #[.int .i64 0, .string ByteArray.empty, .string ByteArray.empty, .string ByteArray.empty, .slice none 0 0]), 5, 80) := by kernel_rfl
/-- a new slice of attributes is handed back -/
def AtsRes (w : World) (l : List At) (e : Ending) (w' : World) : Prop := ∃ a n c, e = .returned (.slice a n c) ∧ AtsAt w' a n c l ∧ (∀ x, a = some x → w.heap.size ≤ x.block) ∧ Below w.heap.size w w'

theorem ats_step {w : World} {B j n : Nat} {l : List At} {s t : ByteArray} (hr : Room w B (n * 2)) (hj : j < n) (hs : (l.getD j dAt).name = s) (ht : (l.getD j dAt).value = t)
    (hd : ∀ i, i < j → w.cell? ⟨B, i * 2, none⟩ = some (.string (l.getD i dAt).name) ∧ w.cell? ⟨B, i * 2 + 1, none⟩ = some (.string (l.getD i dAt).value)) :
    ∀ i, i < j + 1 → ((w.setCell ⟨B, j * 2, none⟩ (.string s)).setCell ⟨B, j * 2 + 1, none⟩ (.string t)).cell? ⟨B, i * 2, none⟩ = some (.string (l.getD i dAt).name) ∧ ((w.setCell ⟨B, j * 2, none⟩ (.string s)).setCell ⟨B, j * 2 + 1, none⟩ (.string t)).cell? ⟨B, i * 2 + 1, none⟩ = some (.string (l.getD i dAt).value) := by
  intro i hi
  rcases Nat.lt_or_ge i j with h | h
  · rw [set_off (by omega), set_off (by omega), set_off (by omega), set_off (by omega)]
    exact hd i h
  · obtain rfl : i = j := by omega
    rw [set_off (by omega), hr.put (by omega), hs, (hr.set _ _).put (by omega), ht]
    exact ⟨rfl, rfl⟩

/-- five cells that read as an item, its attributes in another block behind B -/
structure ItNew (w : World) (B o : Nat) (x : It) : Prop where
  lt : B < w.heap.size
  wf : -9223372036854775808 ≤ x.depth ∧ x.depth ≤ 9223372036854775807
  size : x.text.size ≤ 9223372036854775807 ∧ x.space.size ≤ 9223372036854775807 ∧ x.name.size ≤ 9223372036854775807
  c0 : w.cell? ⟨B, o, none⟩ = some (.int .i64 x.depth)
  c1 : w.cell? ⟨B, o + 1, none⟩ = some (.string x.text)
  c2 : w.cell? ⟨B, o + 2, none⟩ = some (.string x.space)
  c3 : w.cell? ⟨B, o + 3, none⟩ = some (.string x.name)
  c4 : ∃ a n c, w.cell? ⟨B, o + 4, none⟩ = some (.slice a n c) ∧ AtsAt w a n c x.attrs ∧ ∀ y, a = some y → B < y.block
theorem ItNew.it {w : World} {B o : Nat} {x : It} (h : ItNew w B o x) : ItAt w B o x := by
  obtain ⟨a, n, c, h4, hat, _⟩ := h.c4
  exact ⟨h.lt, h.wf, h.size, h.c0, h.c1, h.c2, h.c3, a, n, c, h4, hat⟩
theorem ItNew.below {w w' : World} {b o : Nat} {x : It} (h : ItNew w b o x) (hb : Below w.heap.size w w') : ItNew w' b o x := by
  obtain ⟨a, n, c, h4, hat, hs⟩ := h.c4
  exact ⟨Nat.lt_of_lt_of_le h.lt hb.size, h.wf, h.size, (hb.cell (by exact h.lt)).trans h.c0, (hb.cell (by exact h.lt)).trans h.c1, (hb.cell (by exact h.lt)).trans h.c2, (hb.cell (by exact h.lt)).trans h.c3, a, n, c, (hb.cell (by exact h.lt)).trans h4, hat.below hb, hs⟩
theorem AtsAt.set {w : World} {a : Option Addr} {n c : Nat} {l : List At} {B i : Nat} {v : Value} (h : AtsAt w a n c l) (hs : ∀ y, a = some y → B < y.block) : AtsAt (w.setCell ⟨B, i, none⟩ v) a n c l := by
  refine ⟨h.len, h.max, h.size, ?_⟩
  rcases h.row with e | ⟨b, o, ha, hr, hc⟩
  · exact .inl e
  · have hne := hs _ ha
    refine .inr ⟨b, o, ha, by simpa using hr, fun i hi => ⟨?_, ?_⟩⟩
    · rw [World.cell?_setCell_other _ _ _ _ (fun e => by simp only [Addr.mk.injEq] at e; simp only at hne; omega)]; exact (hc i hi).1
    · rw [World.cell?_setCell_other _ _ _ _ (fun e => by simp only [Addr.mk.injEq] at e; simp only at hne; omega)]; exact (hc i hi).2
theorem ItNew.set {w : World} {B o i : Nat} {x : It} {v : Value} (h : ItNew w B o x) (hi : i < o ∨ o + 5 ≤ i) : ItNew (w.setCell ⟨B, i, none⟩ v) B o x := by
  obtain ⟨a, n, c, h4, hat, hs⟩ := h.c4
  refine ⟨by simpa using h.lt, h.wf, h.size, ?_, ?_, ?_, ?_, a, n, c, ?_, hat.set hs, hs⟩
  · rw [set_off (by omega)]; exact h.c0
  · rw [set_off (by omega)]; exact h.c1
  · rw [set_off (by omega)]; exact h.c2
  · rw [set_off (by omega)]; exact h.c3
  · rw [set_off (by omega)]; exact h4

/-- an item by value is handed back, its attributes in new memory -/
def ItRes (w : World) (x : It) (e : Ending) (w' : World) : Prop := ∃ a n c, e = .returned (.agg #[.int .i64 x.depth, .string x.text, .string x.space, .string x.name, .slice a n c]) ∧ AtsAt w' a n c x.attrs ∧ (∀ y, a = some y → w.heap.size ≤ y.block) ∧ Below w.heap.size w w'

/-- a new slice of items is handed back -/
def ItsRes (w : World) (l : List It) (e : Ending) (w' : World) : Prop := ∃ a n c, e = .returned (.slice a n c) ∧ ItsAt w' a n c l ∧ Below w.heap.size w w'
theorem its_step {w : World} {B j n : Nat} {l : List It} {x : It} {a : Option Addr} {m c : Nat} (hr : Room w B (n * 5)) (hj : j < n) (hx : l.getD j dIt = x)
    (hwf : -9223372036854775808 ≤ x.depth ∧ x.depth ≤ 9223372036854775807) (hsz : x.text.size ≤ 9223372036854775807 ∧ x.space.size ≤ 9223372036854775807 ∧ x.name.size ≤ 9223372036854775807)
    (hat : AtsAt w a m c x.attrs) (hs : ∀ y, a = some y → B < y.block) (hd : ∀ i, i < j → ItNew w B (i * 5) (l.getD i dIt)) :
    ∀ i, i < j + 1 → ItNew (((((w.setCell ⟨B, j * 5, none⟩ (.int .i64 x.depth)).setCell ⟨B, j * 5 + 1, none⟩ (.string x.text)).setCell ⟨B, j * 5 + 2, none⟩ (.string x.space)).setCell ⟨B, j * 5 + 3, none⟩ (.string x.name)).setCell ⟨B, j * 5 + 4, none⟩ (.slice a m c)) B (i * 5) (l.getD i dIt) := by
  intro i hi
  rcases Nat.lt_or_ge i j with h | h
  · exact (((((hd i h).set (by omega)).set (by omega)).set (by omega)).set (by omega)).set (by omega)
  · obtain rfl : i = j := by omega
    rw [hx]
    have r1 := hr.set ⟨B, i * 5, none⟩ (.int .i64 x.depth)
    have r2 := r1.set ⟨B, i * 5 + 1, none⟩ (.string x.text)
    have r3 := r2.set ⟨B, i * 5 + 2, none⟩ (.string x.space)
    have r4 := r3.set ⟨B, i * 5 + 3, none⟩ (.string x.name)
    refine ⟨(r4.set _ _).1, hwf, hsz, ?_, ?_, ?_, ?_, a, m, c, ?_, ((((hat.set hs).set hs).set hs).set hs).set hs, hs⟩
    · rw [set_off (by omega), set_off (by omega), set_off (by omega), set_off (by omega)]
      exact hr.put (by omega) _
    · rw [set_off (by omega), set_off (by omega), set_off (by omega)]
      exact r1.put (by omega) _
    · rw [set_off (by omega), set_off (by omega)]
      exact r2.put (by omega) _
    · rw [set_off (by omega)]
      exact r3.put (by omega) _
    · exact r4.put (by omega) _

end Go.Proofs.YticpebpicdboaaaGreatDoor
