/- The contract of strings.Builder's WriteByte at this dump. -/
import Derived.Test.YtmmicoiiklcakaaGreatDoorGC34
import Derived.Lib.FrozenHead2
import Derived.Test.YtmmicoiiklcakaaGreatDoorGC29
import Derived.Laws.CopyOwn
import Derived.Test.YtmmicoiiklcakaaGreatDoorGC25
import Derived.Test.YtmmicoiiklcakaaGreatDoorGC5
namespace Go.Proofs.YtmmicoiiklcakaaGreatDoor
open Go.ChangeShapes Go.WideShapes Go.ChangeAt Go.RowKit Go.Shelf
set_option linter.unusedVariables false

theorem byteInfoC : (Tryz.prog.info? 5).map (fun i => (i.zero, i.size, i.bytes)) = some (some (.int .u8 0), 1, 1) := by kernel_rfl
/-- behind a byte written: the builder has it behind its own -/
def WroteB (w : World) (B b : Nat) (bs : List Value) (c : Int) (e : Ending) (w' : World) : Prop :=
  e = .returned .nilIface ∧ AtB w' B b (bs ++ [.int .u8 c]) ∧ Below B w w' ∧ KeptB b w w'

set_option maxHeartbeats 1600000 in
set_option maxRecDepth 100000 in
theorem writeByte_any (B b : Nat) (bs : List Value) (c : Int) (w : World) (h : IsB w B b bs) (hlen : bs.length ≤ 1000000) (hBw : B ≤ w.heap.size) :
    Calls Tryz.prog 266 #[.pointer (some ⟨b, 0, none⟩), .int .u8 c] w (WroteB w B b bs c) := by
  obtain ⟨i0, hi, hz0, hz1, hz2⟩ := info_parts byteInfoC
  have HI := Lib.hid h
  clear h
  go_enter Tryz.func266, Tryz.ntmps266
  go_wp2_with fail
  refine (copyCheck_any B b bs _ HI.out).mono ?_
  rintro e w1 ⟨rfl, h1, hb1, hk1⟩
  obtain ⟨hB, v, hbk, hown, hne⟩ := h1
  obtain ⟨ao, cap, rfl⟩ : ∃ ao cap, v = .slice ao bs.length cap := by
    rcases hown.2 with ⟨hv, h0⟩ | ⟨g, cap, cur, fz, hv, _⟩
    · exact ⟨none, 0, by rw [hv, h0]⟩
    · exact ⟨_, _, hv⟩
  have c1 : w1.cell? ⟨b, 1, none⟩ = some (.slice ao bs.length cap) := by rw [Lib.cell_of_heap hbk]; rfl
  have HOWN := Lib.hid hown
  have HNE := Lib.hid hne
  have HBK := Lib.hid hbk
  have HK1 := Lib.hid hk1
  have HB1 := Lib.hid hb1
  clear hown hne hbk hk1 hb1
  go_wp2_with (at_builtin; go_loud (refine wpList_append_ownF _ rfl _ _ 22 rfl B 5 i0 (.int .u8 0) 1 1 Tryz.underlying22 hi hz0 hz1 hz2 rfl (by decide) _ _ _ rfl (HOWN.out.alloc _) ⟨w1.heap.size, 0, none⟩ 1 1 [.int .u8 c] rfl rfl ?c1 ?c2 ?c3 ?c4 ?c5 ?_))
  case c1 =>
    intro j u hj
    match j, hj with
    | 0, hj => simp at hj; subst hj; simp [Addr.add]
  case c2 => intro u hu; simp at hu; subst hu; rfl
  case c3 => unfold maxLen; omega
  case c4 => omega
  case c5 => have := HB1.out.size; simp; omega
  intro v' w2 hown' hgrow _
  have hlt : b < w1.heap.size := by
    rcases Nat.lt_or_ge b w1.heap.size with h' | h'
    · exact h'
    · have := HBK.out
      simp [Array.getElem?_eq_none h'] at this
  have hb2 : w2.heap[b]? = some (.cells #[.pointer (some ⟨b, 0, none⟩), .slice ao bs.length cap] 212 (0, 0)) := by
    rw [hgrow.block b (by simp; omega) (fun e => HNE.out e.symm), Lib.alloc_old w1 _ b hlt]
    exact HBK.out
  have d1 : w2.cell? ⟨b, 1, none⟩ = some (.slice ao bs.length cap) := by rw [Lib.cell_of_heap hb2]; rfl
  have f1 : w2.frozen? ⟨b, 1, none⟩ = false := Lib.frozen_of_heap hb2 1
  obtain ⟨g, cap', rfl⟩ : ∃ g cap', v' = .slice (some ⟨g, 0, none⟩) (bs.length + 1) cap' := by
    rcases hown'.2 with ⟨_, h0⟩ | ⟨g, cap', cur, fz, hv, _⟩
    · omega
    · exact ⟨g, cap', hv⟩
  have HO2 := Lib.hid hown'
  have HG := Lib.hid hgrow
  have HB2 := Lib.hid hb2
  clear hown' hgrow hb2 c1
  go_wp2
  go_ret
  refine ⟨rfl, ?_, ?_, ((HK1.out.alloc _).grown HG.out (Lib.ownsRowF_kind (HOWN.out.alloc _))).setCell ⟨b, 1, none⟩ rfl _⟩
  · have := HO2.out
    exact Lib.BuilderAtF.put hB HB2.out (bs' := bs ++ [.int .u8 c]) (by simpa using this) neBuilder
  · exact ((HB1.out.alloc (by have := HB1.out.size; omega) _).grown HG.out (by have := HB1.out.size; simp; omega) (fun k hk => (HOWN.out.lt k hk).1)).setCell (p := ⟨b, 1, none⟩) hB _
end Go.Proofs.YtmmicoiiklcakaaGreatDoor

/- The program's writeGroup. -/
namespace Go.Proofs.YtmmicoiiklcakaaGreatDoor
open Go.ChangeShapes Go.WideShapes Go.ChangeAt Go.RowKit
set_option linter.unusedVariables false

theorem joined (x y z : Int) (hx : 0 ≤ x ∧ x ≤ 255) (hy : 0 ≤ y ∧ y ≤ 255) (hz : 0 ≤ z ∧ z ≤ 255) : bits .or .i64 (bits .or .i64 (x * 65536) (y * 256)) z = x * 65536 + y * 256 + z := by
  have hw : ∀ n : Int, 0 ≤ n → n < 2 ^ 62 → IntKind.i64.wrap n = n := fun n h0 h1 => IntWalk.i64_in n (by omega)
  rw [bits_join .i64 62 (by decide) hw 16 (x * 65536) (y * 256) (by omega) (by omega) (by omega) (by omega) (by omega) (by omega)]
  rw [bits_join .i64 62 (by decide) hw 8 (x * 65536 + y * 256) z (by omega) (by omega) (by omega) (by omega) (by omega) (by omega)]
theorem padded3 (gr : List Int) (h : gr.length ≤ 3) : splice [Value.int .u8 0, .int .u8 0, .int .u8 0] 0 (gr.map (Value.int .u8)) = [Value.int .u8 (gr.getD 0 0), .int .u8 (gr.getD 1 0), .int .u8 (gr.getD 2 0)] := by
  match gr, h with
  | [], _ => rfl
  | [a], _ => rfl
  | [a, b], _ => rfl
  | [a, b, c], _ => rfl
theorem grpL_take (gr : List Int) (i : Nat) (h : i < 4) : (grpL gr).take (i + 1) = (grpL gr).take i ++ [grpS gr i] := by
  match i, h with
  | 0, _ => rfl
  | 1, _ => rfl
  | 2, _ => rfl
  | 3, _ => rfl

theorem ib_below {B b : Nat} {bs : List Value} {W W' : World} (h : IsB W B b bs) (hb : Below W.heap.size W W') : IsB W' B b bs := by
  rcases h with h | h
  all_goals
    have hlt := h.lt
    obtain ⟨hB, v, hv, hown, hne⟩ := h
  · exact .inl ⟨hB, v, (hb.block b hlt).trans hv, hown.kept (row := none) ⟨hb.os, hb.tape, hb.output, hb.size, fun k hk _ => hb.block k hk⟩ (Classical.em _), hne⟩
  · exact .inr ⟨hB, v, (hb.block b hlt).trans hv, hown.kept (row := none) ⟨hb.os, hb.tape, hb.output, hb.size, fun k hk _ => hb.block k hk⟩ (Classical.em _), hne⟩
/-- behind a group written -/
def GroupRes (w : World) (B b : Nat) (bs : List Value) (gr : List Int) (e : Ending) (w' : World) : Prop :=
  e = .returned (.tuple #[]) ∧ AtB w' B b (bs ++ Lib.byteCells (grpL gr)) ∧ Below B w w' ∧ KeptB b w w'

set_option maxRecDepth 100000 in
set_option maxHeartbeats 3200000 in
theorem writeGroup_any (B b g o m c : Nat) (bs : List Value) (gr : List Int) (w : World) (hB : IsB w B b bs) (hlen : bs.length ≤ 900000) (hBw : B ≤ w.heap.size) (hm1 : 1 ≤ m) (hm3 : m ≤ 3) (hl : gr.length = m) (hby : ∀ i, 0 ≤ gr.getD i 0 ∧ gr.getD i 0 ≤ 255) (hg : g < w.heap.size)
    (hx : ∀ i, i < m → w.cell? ⟨g, o + i, none⟩ = some (.int .u8 (gr.getD i 0))) :
    Calls Tryz.prog 202 #[.pointer (some ⟨b, 0, none⟩), .slice (some ⟨g, o, none⟩) m c] w (GroupRes w B b bs gr) := by
  obtain ⟨i0, hi, hz0, hz1, hz2⟩ := info_parts cpInfo
  have hsz1 : (Tryz.prog.info? 5).map (·.size) = some 1 := by rw [hi]; exact congrArg some hz1
  have HX := Lib.hid hx
  have HIB := Lib.hid hB
  have HPD := Lib.hid (padded3 gr (by omega))
  have hNb : 0 ≤ gr.getD 0 0 * 65536 + gr.getD 1 0 * 256 + gr.getD 2 0 := by have := hby 0; have := hby 1; have := hby 2; omega
  have HJ := Lib.hid (joined _ _ _ (hby 0) (hby 1) (hby 2))
  have hy0 := hby 0
  have hy1 := hby 1
  have hy2 := hby 2
  have HGN : Hid (grpN gr = gr.getD 0 0 * 65536 + gr.getD 1 0 * 256 + gr.getD 2 0) := Lib.hid rfl
  have HLEN := Lib.hid hl
  unfold GroupRes
  clear hx hB
  go_enter Tryz.func202, Tryz.ntmps202
  go_wp2_with (with_reducible refine wpList_copy_splice rfl (.tmp 7) (.tmp 8) 22 22 rfl 5 Tryz.underlying22 hsz1 (some ⟨w.heap.size, 0, none⟩) (some ⟨g, o, none⟩) 3 3 m c rfl rfl w.heap.size 0 [.int .u8 0, .int .u8 0, .int .u8 0] 282 (heap_alloc_new w _) (gr.map (Value.int .u8)) ?c1 ?c2 ?c3 (oneI gr) w.heap.size w (below1 w _) (Nat.le_refl _) ?_)
  case c1 => simp only [List.length_map, hl]; show m = Nat.min m 3; exact (Nat.min_eq_left hm3).symm
  case c2 =>
    intro _ j v hj
    have hj3 : j < gr.length := by
      rcases Nat.lt_or_ge j gr.length with h1 | h1
      · exact h1
      · rw [List.getElem?_eq_none (by simpa using h1)] at hj; cases hj
    rw [HX.out j (by omega), List.getD_eq_getElem?_getD, hj]
    rfl
  case c3 => simp; omega
  intro w1 hg1 hb1
  rw [HPD.out] at hg1
  have HIB1 := Lib.hid (ib_below HIB.out hb1)
  have HB1 := Lib.hid (hb1.mono hBw)
  have HK1 : Hid (KeptB b w w1) := Lib.hid (fun k o hk _ _ => (hb1.block k (Array.getElem?_eq_some_iff.1 hk).1).trans hk)
  have hz := hb1.size
  have d0 : w1.cell? ⟨w.heap.size, 0, none⟩ = some (.int .u8 (gr.getD 0 0)) := by rw [Lib.cell_of_heap hg1.out]; rfl
  have d1 : w1.cell? ⟨w.heap.size, 1, none⟩ = some (.int .u8 (gr.getD 1 0)) := by rw [Lib.cell_of_heap hg1.out]; rfl
  have d2 : w1.cell? ⟨w.heap.size, 2, none⟩ = some (.int .u8 (gr.getD 2 0)) := by rw [Lib.cell_of_heap hg1.out]; rfl
  have HS : Hid (∀ i, i < 4 → i ≤ m → grpS gr i = sg ((gr.getD 0 0 * 65536 + gr.getD 1 0 * 256 + gr.getD 2 0) / 2 ^ (18 - 6 * i) % 64)) := Lib.hid (fun i _ h => by rw [grpS_in gr i (by omega), HGN.out]; rfl)
  have HS2 : Hid (∀ i, m < i → grpS gr i = 61) := Lib.hid (fun i h => by unfold grpS; rw [if_pos (by omega)])
  have HTK := Lib.hid (fun i h => grpL_take gr i h)
  clear hg1 hb1 HIB HX hby
  generalize gr.getD 0 0 = x0 at *
  generalize gr.getD 1 0 = x1 at *
  generalize gr.getD 2 0 = x2 at *
  obtain ⟨y00, y01⟩ := hy0
  obtain ⟨y10, y11⟩ := hy1
  obtain ⟨y20, y21⟩ := hy2
  have v0 : IntKind.i64.wrap x0 = x0 := IntWalk.i64_in _ (by omega)
  have v1 : IntKind.i64.wrap x1 = x1 := IntWalk.i64_in _ (by omega)
  have v2 : IntKind.i64.wrap x2 = x2 := IntWalk.i64_in _ (by omega)
  have v3 : IntKind.i64.wrap (x0 * 65536) = x0 * 65536 := IntWalk.i64_in _ (by omega)
  have v4 : IntKind.i64.wrap (x1 * 256) = x1 * 256 := IntWalk.i64_in _ (by omega)
  go_wp2
  rw [HJ.out]
  clear HJ v0 v1 v2 v3 v4 d0 d1 d2
  generalize x0 * 65536 + x1 * 256 + x2 = N at *
  clear y00 y01 y10 y11 y20 y21
  go_loopw [23] (fun i wr => ∃ k : Nat, k ≤ 4 ∧ i = .int .i64 k ∧ IsB wr B b (bs ++ Lib.byteCells ((grpL gr).take k)) ∧ Below B w wr ∧ KeptB b w wr ∧ Hid (0 < k → AtB wr B b (bs ++ Lib.byteCells ((grpL gr).take k)))) (fun i _ => 4 - (intOf i).toNat)
  case atStart => exact ⟨0, by omega, rfl, by simpa [Lib.byteCells] using HIB1.out, HB1.out, HK1.out, Lib.hid (fun h => absurd h (by omega))⟩
  case round =>
    clear HIB1 HB1 HK1 hz
    obtain ⟨k, hk, rfl, hI, hB, hKp, HA⟩ := hrel
    have HKP := Lib.hid hKp
    have HI := Lib.hid hI
    have HB := Lib.hid hB
    have hsz := hB.size
    clear hI hB hKp
    have hlk0 : (Lib.byteCells ((grpL gr).take k)).length = k := by rw [Lib.byteCells_length, List.length_take]; show min k 4 = k; omega
    by_cases hlk : k < 4
    · have HT := Lib.hid (HTK.out k hlk)
      by_cases hkm : m < k
      · have KW := Lib.hid (fun W (h : IsB W B b (bs ++ Lib.byteCells ((grpL gr).take k))) (hW : B ≤ W.heap.size) => writeByte_any B b _ 61 W h (by rw [List.length_append, hlk0]; omega) hW)
        have HE := Lib.hid (HS2.out k hkm)
        unfold WroteB at KW
        have q1 : (m : Int) < (k : Int) := by omega
        clear HA hlk0
        go_wp2_with fail
        refine (KW.out _ HI.out (by omega)).mono ?_
        rintro e w2 ⟨rfl, hA2, hB2, hK2⟩
        have HA2 := Lib.hid hA2
        have HB2 := Lib.hid hB2
        have HK2 := Lib.hid (HKP.out.trans hK2)
        clear hA2 hB2 hK2 KW
        go_wp2
        go_roundw
        case rel =>
          have h2 : AtB w2 B b (bs ++ Lib.byteCells ((grpL gr).take (k + 1))) := by
            rw [HT.out, HE.out, Lib.byteCells_append, ← List.append_assoc]; exact HA2.out
          exact ⟨k + 1, by omega, by go_num, .inr h2, HB.out.trans HB2.out, HK2.out, Lib.hid (fun _ => h2)⟩
        case measure => simp [intOf]; omega
      · have HE := Lib.hid (HS.out k hlk (by omega))
        obtain ⟨s, hs⟩ : ∃ s, 18 - 6 * k = s := ⟨_, rfl⟩
        rw [hs] at HE
        have e1 : 18 - 6 * (k : Int) = (s : Int) := by omega
        have hs2 : (s : Int) ≤ 18 := by omega
        have hd0 : 0 ≤ N / 2 ^ s := Int.ediv_nonneg hNb (by have : (0:Int) < 2 ^ s := Int.pow_pos (by decide); omega)
        have r1 : (N / 2 ^ s).tmod 64 = N / 2 ^ s % 64 := Int.tmod_eq_emod_of_nonneg hd0
        have b0 : 0 ≤ N / 2 ^ s % 64 := by omega
        have b1 : N / 2 ^ s % 64 < 64 := by omega
        have KW := Lib.hid (fun W (h : IsB W B b (bs ++ Lib.byteCells ((grpL gr).take k))) (hW : B ≤ W.heap.size) => writeByte_any B b _ ((sg (N / 2 ^ s % 64)).toNat : Int) W h (by rw [List.length_append, hlk0]; omega) hW)
        unfold WroteB at KW
        have q1 : ¬ ((m : Int) < (k : Int)) := by omega
        clear HA hlk0 hs hd0
        go_wp2_with fail
        simp only [signLit]
        refine (KW.out _ HI.out (by omega)).mono ?_
        rintro e w2 ⟨rfl, hA2, hB2, hK2⟩
        have HA2 := Lib.hid hA2
        have HB2 := Lib.hid hB2
        have HK2 := Lib.hid (HKP.out.trans hK2)
        clear hA2 hB2 hK2 KW
        go_wp2
        go_roundw
        case rel =>
          have h2 : AtB w2 B b (bs ++ Lib.byteCells ((grpL gr).take (k + 1))) := by
            rw [HT.out, HE.out, Lib.byteCells_append, ← List.append_assoc]; exact HA2.out
          exact ⟨k + 1, by omega, by go_num, .inr h2, HB.out.trans HB2.out, HK2.out, Lib.hid (fun _ => h2)⟩
        case measure => simp [intOf]; omega
    · obtain rfl : k = 4 := by omega
      have hAt := HA.out (by omega)
      have HAt := Lib.hid hAt
      clear hAt HA hlk0
      go_wp2
      go_end0
      exact ⟨rfl, HAt.out, HB.out, HKP.out⟩
end Go.Proofs.YtmmicoiiklcakaaGreatDoor

/- The program's Base64Of. -/
namespace Go.Proofs.YtmmicoiiklcakaaGreatDoor
open Go.RowKit Go.Shelf
set_option linter.unusedVariables false

attribute [local go_sem] Oper.semAt_some

theorem ib_kept {B b : Nat} {bs : List Value} {W W' : World} {row : Option Nat} (h : IsB W B b bs) (hg : W.grownBy W' row) (hr : ∀ g cs T f, W.heap[g]? = some (.cells cs T f) → some g ≠ row) : IsB W' B b bs := by
  rcases h with h | h
  all_goals
    have hlt := h.lt
    obtain ⟨hB, v, hv, hown, hne⟩ := h
    have hk : W'.ownsRowF B 5 1 v bs.length bs := hown.kept hg (by
      cases ho : v.ownBlock with
      | none => exact .inl rfl
      | some q =>
        refine .inr ?_
        rcases hown.2 with ⟨rfl, _⟩ | ⟨g, cap, cur, fz, rfl, _, hh, _⟩
        · cases ho
        · obtain rfl : g = q := by simpa [Value.ownBlock] using ho
          exact hr _ _ _ _ hh)
  · exact .inl ⟨hB, v, (hg.block b hlt (hr _ _ _ _ hv)).trans hv, hk, hne⟩
  · exact .inr ⟨hB, v, (hg.block b hlt (hr _ _ _ _ hv)).trans hv, hk, hne⟩
def preB (xs : List Int) (pre : List Nat) : List UInt8 := pre.flatMap fun k => grpL (grpAt xs k)
theorem preB_snoc (xs : List Int) (pre : List Nat) (k : Nat) : preB xs (pre ++ [k]) = preB xs pre ++ grpL (grpAt xs k) := by simp [preB]
theorem preB_length (xs : List Int) (pre : List Nat) : (preB xs pre).length = 4 * pre.length := by
  induction pre with
  | nil => rfl
  | cons k pre ih =>
    have : preB xs (k :: pre) = grpL (grpAt xs k) ++ preB xs pre := by simp [preB]
    rw [this, List.length_append, ih, List.length_cons, show (grpL (grpAt xs k)).length = 4 from rfl]
    omega
theorem cells_kept {A : World} {row : Option Nat} (hr : ∀ r, row = some r → ∃ o : Obj, A.heap[r]? = some o ∧ o.isCells = false) : ∀ g cs T f, A.heap[g]? = some (.cells cs T f) → some g ≠ row := by
  intro g cs T f hh e
  obtain ⟨o, ho, hc⟩ := hr _ e.symm
  rw [hh] at ho
  cases ho
  cases hc

/-- the two boxes that the pieces are cut from -/
def Boxes (s : Nat) (v : Value) (W : World) : Prop := W.heap[s]? = some (.cells #[v] 22 (0, 0)) ∧ W.heap[s + 1]? = some (.cells #[.int .i64 3] 3 (0, 0))
theorem boxes_kept {s : Nat} {v : Value} {W W' : World} {row : Option Nat} (h : Boxes s v W) (hg : W.grownBy W' row) (hr : ∀ g cs T f, W.heap[g]? = some (.cells cs T f) → some g ≠ row) : Boxes s v W' :=
  ⟨(hg.block s (Array.getElem?_eq_some_iff.1 h.1).1 (hr _ _ _ _ h.1)).trans h.1, (hg.block (s + 1) (Array.getElem?_eq_some_iff.1 h.2).1 (hr _ _ _ _ h.2)).trans h.2⟩
theorem boxes_b {s b : Nat} {v : Value} {W W' : World} (h : Boxes s v W) (hk : KeptB b W W') (h1 : s ≠ b) (h2 : s + 1 ≠ b) : Boxes s v W' :=
  ⟨hk _ _ h.1 (fun e => h1 (by simpa using e)) (fun c fz e => by cases e), hk _ _ h.2 (fun e => h2 (by simpa using e)) (fun c fz e => by cases e)⟩
theorem keeps_b {B b : Nat} {bs : List Value} {W W' : World} (h : IsB W B b bs) (hk : KeptB b W W') (hs : W.heap.size ≤ W'.heap.size) : KeepsOthers W W' := by
  refine ⟨hs, fun k o ho hc => hk k o ho (fun e => ?_) (fun c fz e => by subst e; cases hc)⟩
  obtain rfl : k = b := by simpa using e
  rcases h with h | h
  all_goals
    obtain ⟨_, v, hv, _⟩ := h
    rw [ho] at hv
    cases hv
    cases hc

set_option maxRecDepth 100000 in
set_option maxHeartbeats 1600000 in
theorem implBase64Of_in (a : Option Addr) (n c : Nat) (xs : List Int) (w : World) (hn : n ≤ 3000) (hnc : n ≤ c) (hcm : c ≤ maxLen) (h : InRow w a n c xs) :
    CallsIn Fence.wide 6 Tryz.prog 113 #[.slice a n c] w fun e w' => e = .returned (.agg #[.int .i64 0, .string ⟨(b64L xs).toArray⟩]) ∧ Below w.heap.size w w' := by
  obtain ⟨rb, ro, hrow⟩ : ∃ rb ro, n = 0 ∨ (a = some ⟨rb, ro, none⟩ ∧ rb < w.heap.size ∧ ∀ i, i < n → w.cell? ⟨rb, ro + i, none⟩ = some (.int .u8 (xs.getD i 0))) := by
    rcases h.row with e | ⟨rb, ro, h1, h2, h3⟩
    · exact ⟨0, 0, .inl e⟩
    · exact ⟨rb, ro, .inr ⟨h1, h2, h3⟩⟩
  have HROW := Lib.hid hrow
  have HL := Lib.hid h.len
  have HBY := Lib.hid h.byte
  clear hrow h
  refine callsIn_of_wp_marks Tryz.func113 rfl trivial ?_ rfl
  simp only [Tryz.ntmps113, List.size_toArray, List.length_cons, List.length_nil, Nat.reduceAdd, Nat.reduceSub, Array.replicate_succ, Array.replicate_zero, List.push_toArray, List.append_toArray, List.nil_append, List.cons_append]
  gi_wp2_with fail
  refine ⟨trivial, (chunk_in _ _ _ _ 3 (by decide) _).mono ?_⟩
  rintro e w2 ⟨rfl, rfl⟩
  gi_wp2_with fail
  have hN : pieces 3 n = b64N xs := by unfold pieces b64N; rw [HL.out]
  have hN2 : pieces 3 n ≤ 1001 := by unfold pieces; omega
  have HN := Lib.hid hN
  clear hN
  obtain ⟨wR, hwR⟩ : ∃ wR, w.alloc (.cells #[.int .i64 0, .string ⟨#[]⟩] 42) = wR := ⟨_, rfl⟩
  rw [hwR]
  have hRz : wR.heap.size = w.heap.size + 1 := by rw [← hwR]; simp
  have HRB : Hid (Below w.heap.size w wR) := Lib.hid (by rw [← hwR]; exact below1 _ _)
  have HRC : Hid (CodeB wR w.heap.size 42 0 (.string ⟨#[]⟩)) := Lib.hid (by rw [← hwR]; exact heap_alloc_new w _)
  clear hwR
  generalize hW2 : (((wR.alloc (Obj.cells #[Value.pointer none, Value.slice none 0 0] 212)).alloc (Obj.cells #[Value.slice a n c] 22)).alloc (Obj.cells #[Value.int IntKind.i64 3] 3)) = W2
  have hz2 : W2.heap.size = w.heap.size + 4 := by rw [← hW2]; simp [hRz]
  have sX : Boxes (w.heap.size + 2) (.slice a n c) W2 := by
    constructor
    · rw [← hW2, Below.heap_alloc _ _ _ (by simp; omega)]
      have := heap_alloc_new (wR.alloc (Obj.cells #[Value.pointer none, Value.slice none 0 0] 212)) (Obj.cells #[Value.slice a n c] 22)
      simpa [hRz] using this
    · have := heap_alloc_new ((wR.alloc (Obj.cells #[Value.pointer none, Value.slice none 0 0] 212)).alloc (Obj.cells #[Value.slice a n c] 22)) (Obj.cells #[Value.int IntKind.i64 3] 3)
      rw [← hW2]
      simpa [hRz] using this
  have hb0 : W2.cell? ⟨w.heap.size + 2, 0, none⟩ = some (.slice a n c) := by rw [Lib.cell_of_heap sX.1]; rfl
  have hb1 : W2.cell? ⟨w.heap.size + 2 + 1, 0, none⟩ = some (.int .i64 ((3 : Nat) : Int)) := by rw [Lib.cell_of_heap sX.2]; rfl
  have sB : Below (w.heap.size + 1) wR W2 := by
    rw [← hW2, ← hRz]
    exact (((Below.refl _ _).alloc (Nat.le_refl _) _).alloc (by simp) _).alloc (by simp; omega) _
  have sI : IsB W2 (w.heap.size + 1) (w.heap.size + 1) [] := by
    rw [← hW2]
    refine ib_below (W := wR.alloc (Obj.cells #[Value.pointer none, Value.slice none 0 0] 212)) (.inl ⟨Nat.le_refl _, .slice none 0 0, ?_, World.ownsRowF_nil _ _ _ _, by simp [Value.ownBlock]⟩) (below2 _ _ _)
    have := heap_alloc_new wR (Obj.cells #[Value.pointer none, Value.slice none 0 0] 212)
    rwa [hRz] at this
  clear hW2
  refine wpIn_rangeFunc_ownF rfl (by omega) (gf := 265) (lb := #[.pointer (some ⟨w.heap.size + 2, 0, none⟩), .pointer (some ⟨w.heap.size + 2 + 1, 0, none⟩)]) rfl trivial (enters_of Tryz.func265 (by kernel_rfl) rfl)
    (chunk_stops _ (by omega) (w.heap.size + 2) w.heap.size a rb ro n c 3 (by decide) (by decide) (by omega) hnc hcm (HROW.out.imp id (fun h => h.1)) W2 (by omega) (by omega) hb0 hb1) (fun h k => KpC.trans h k) (kpC_b (by omega) (by omega)) (Below.refl _ _) (fun _ => rfl)
    (fun pre W => (IsB W (w.heap.size + 1) (w.heap.size + 1) (Lib.byteCells (preB xs (pre.map (·.1)))) ∧ Boxes (w.heap.size + 2) (.slice a n c) W) ∧ Below (w.heap.size + 1) wR W)
    (fun c pre W => False ∧ Below (w.heap.size + 1) wR W)
    (OwnFrom.and (Own.from (fun s A B row hs hg hr => ⟨ib_kept hs.1 hg (cells_kept hr), boxes_kept hs.2 hg (cells_kept hr)⟩) _) (ownFrom_below (by omega) (by omega)))
    (fun c => OwnFrom.and (Own.from (fun s A B row hs hg hr => hs.elim) _) (ownFrom_below (by omega) (by omega)))
    ⟨⟨sI, sX⟩, sB⟩
    (fun x => { tmps := #[.slice a n c, undef, .pointer (some ⟨w.heap.size, 0, none⟩), .pointer (some ⟨w.heap.size + 1, 0, none⟩), .slice (some ⟨rb, ro + 3 * x.1, none⟩) (min 3 (n - 3 * x.1)) (min 3 (n - 3 * x.1)), .slice a n c, .int .i64 n, .bool (decide ((3000 : Int) < (n : Int))), undef, .slice a n c,
      .func (.func 265) #[] #[.pointer (some ⟨w.heap.size + 2, 0, none⟩), .pointer (some ⟨w.heap.size + 2 + 1, 0, none⟩)], .slice (some ⟨rb, ro + 3 * x.1, none⟩) (min 3 (n - 3 * x.1)) (min 3 (n - 3 * x.1)), undef, undef, undef, undef], defers := [] }) ?assign ?body ?done ?stop
  case assign =>
    intro l x W K hK
    unfold encC
    gi_wp2
    exact hK
  case body =>
    rintro l pre x W ⟨⟨hI, hX⟩, hB⟩ hlt
    obtain ⟨k, hk⟩ := x
    obtain ⟨rfl, hrb, hcl⟩ := HROW.out.resolve_left (by omega)
    obtain ⟨m, hm⟩ : ∃ m, min 3 (n - 3 * k) = m := ⟨_, rfl⟩
    have hsz := hB.size
    have hpl : (Lib.byteCells (preB xs (pre.map (·.1)))).length ≤ 900000 := by
      rw [Lib.byteCells_length, preB_length, List.length_map]
      have : pre.length < pieces 3 n := by simpa using hlt
      omega
    have K := Lib.hid (writeGroup_any (w.heap.size + 1) (w.heap.size + 1) rb (ro + 3 * k) m m (Lib.byteCells (preB xs (pre.map (·.1)))) (grpAt xs k) W hI hpl (by omega) (by omega) (by omega) (by rw [grpAt_length, HL.out, hm])
      (fun i => by
        rcases Nat.lt_or_ge i 3 with h3 | h3
        · rw [grpAt_getD xs k i h3]; exact HBY.out _
        · rw [List.getD_eq_getElem?_getD, List.getElem?_eq_none (by rw [grpAt_length]; omega)]; decide) (by omega)
      (fun i hi => by
        rw [grpAt_getD xs k i (by omega), Nat.add_assoc]
        exact (hB.cell (p := ⟨rb, ro + (3 * k + i), none⟩) (by show rb < w.heap.size + 1; omega)).trans ((HRB.out.cell (p := ⟨rb, ro + (3 * k + i), none⟩) hrb).trans (hcl _ (by omega)))))
    have HSN := Lib.hid (preB_snoc xs (pre.map (·.1)) k)
    unfold GroupRes at K
    dsimp only
    rw [hm]
    have HI := Lib.hid hI
    have HX := Lib.hid hX
    have HB := Lib.hid hB
    clear sI sX sB hb0 hb1 hI hX hB hcl hpl hlt
    gi_wp2_with fail
    refine ⟨trivial, (CallsIn.inRound l (callsIn_wide.2 K.out)).mono ?_⟩
    rintro e w3 ⟨rfl, hA3, hB3, hK3⟩
    have HA3 := Lib.hid hA3
    have HB3 := Lib.hid hB3
    have HK3 := Lib.hid hK3
    have hs3 := hB3.size
    clear hA3 hB3 hK3 K
    gi_wp2
    have hX3 := boxes_b HX.out HK3.out (by omega) (by omega)
    refine ⟨keeps_b HI.out HK3.out hs3, ⟨HB3.out.mono (by omega), hX3.1.trans HX.out.1.symm, hX3.2.trans HX.out.2.symm⟩, ⟨?_, hX3⟩, HB.out.trans HB3.out⟩
    rw [List.map_append, List.map_cons, List.map_nil, HSN.out, Lib.byteCells_append]
    exact .inr HA3.out
  case done =>
    rintro D ys W hD hys ⟨⟨hI, _⟩, hB⟩ hK
    have hst : preB xs (ys.map (·.1)) = b64L xs := by rw [hys, HN.out]; rfl
    rw [hst] at hI
    have HI := Lib.hid hI
    have HB := Lib.hid hB
    have HK := Lib.hid hK
    have hzW := hB.size
    have KS := Lib.hid (Tryz.Builder_String_any_k (w.heap.size + 1) (w.heap.size + 1) (b64L xs) W hI (by omega))
    clear hys hst hI hB hK sI sX sB hb0 hb1
    gi_wp2_with fail
    refine ⟨trivial, (callsIn_wide.2 KS.out).mono ?_⟩
    rintro e w3 ⟨rfl, _, hB3, hKO⟩
    have hK3 : w3.heap[D]? = some (.deferred (some [])) := hKO D _ HK.out (fun e => absurd (show D = w.heap.size + 1 by simpa using e) (by omega)) (fun c fz e => by cases e)
    have HB3 := Lib.hid hB3
    clear hB3 hKO KS
    have hR3 : CodeB w3 w.heap.size 42 0 (.string ⟨#[]⟩) := (HB3.out.block w.heap.size (by omega)).trans ((HB.out.block w.heap.size (by omega)).trans HRC.out)
    have g0 := hR3.cell0
    have g1 := hR3.cell1
    have gf := hR3.free
    have HR3 := Lib.hid hR3
    have HK3 := Lib.hid hK3
    clear hR3 hK3
    gi_wp2
    have hR4 := HR3.out.set 0 (.string ⟨(b64L xs).toArray⟩)
    have hK' := ((KeepsOthers.setCell w3 ⟨w.heap.size, 0, none⟩ (.int .i64 0)).trans (KeepsOthers.setCell _ ⟨w.heap.size, 1, none⟩ (.string ⟨(b64L xs).toArray⟩))).same D _ HK3.out rfl
    refine ⟨by simp, .inl ⟨_, _, rfl, run_takeDeferred hK', ?_⟩⟩
    have hd0 := cell_kept hR4.cell0 (grownBy_putObj' _ D (.deferred none)) (fun r e => by cases e; exact ⟨_, hK', rfl⟩)
    have hd1 := cell_kept hR4.cell1 (grownBy_putObj' _ D (.deferred none)) (fun r e => by cases e; exact ⟨_, hK', rfl⟩)
    refine ⟨.agg #[.int .i64 0, .string ⟨(b64L xs).toArray⟩], ?_, rfl, (((HRB.out.trans ((HB.out.trans HB3.out).mono (by omega))).setCell (p := ⟨w.heap.size, 0, none⟩) (Nat.le_refl _) _).setCell (p := ⟨w.heap.size, 1, none⟩) (Nat.le_refl _) _).trans (belowK_b (w := w) (Nat.le_refl _) _ D _ _ (by omega) hK' rfl rfl)⟩
    simp [results, Tryz.f113, go_sem, hd0, hd1]
  case stop =>
    rintro D c pre W hD hpre ⟨h, _⟩ hK
    exact h.elim

/-- the program's Base64Of -/
theorem implBase64Of_any (a : Option Addr) (n c : Nat) (xs : List Int) (w : World) (hm : n ≤ 1048576) (hnc : n ≤ c) (hcm : c ≤ maxLen) (h : InRow w a n c xs) :
    Calls Tryz.prog 113 #[.slice a n c] w fun e w' => e = .returned (.agg #[.int .i64 (b64Code xs), .string (b64Text xs)]) ∧ Below w.heap.size w w' := by
  have hl := h.len
  unfold b64Code b64Text
  rw [hl]
  by_cases h3 : 3000 < n
  · rw [if_pos h3, if_pos h3]
    clear hl h
    go_enter Tryz.func113, Tryz.ntmps113
    go_wp2
    exact bodyPost_ret (v := .agg #[.int .i64 2, .string _]) (by simp [results, Tryz.results113, go_sem]; rfl) rfl ⟨rfl, below1 w _⟩
  · rw [if_neg h3, if_neg h3]
    exact callsIn_wide.1 (implBase64Of_in a n c xs w (by omega) hnc hcm h)
end Go.Proofs.YtmmicoiiklcakaaGreatDoor
