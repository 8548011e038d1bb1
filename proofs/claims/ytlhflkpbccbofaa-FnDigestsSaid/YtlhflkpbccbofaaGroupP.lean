/- The program's writeGroup. -/
import Derived.Test.YtlhflkpbccbofaaBuildB
import Derived.Test.YtlhflkpbccbofaaB64S
import Derived.Laws.CopyOwn
namespace Go.Proofs.Ytlhflkpbccbofaa
open Go.ChangeShapes Go.WideShapes Go.ChangeAt Go.RowKit
set_option linter.unusedVariables false

theorem joined (x y z : Int) (hx : 0 ≤ x ∧ x ≤ 255) (hy : 0 ≤ y ∧ y ≤ 255) (hz : 0 ≤ z ∧ z ≤ 255) : bits .or .i64 (bits .or .i64 (x * 65536) (y * 256)) z = x * 65536 + y * 256 + z := by
  have hw : ∀ n : Int, 0 ≤ n → n < 2 ^ 62 → IntKind.i64.wrap n = n := fun n h0 h1 => IntWalk.i64_in n (by omega)
  rw [bits_join .i64 62 (by decide) hw 16 (x * 65536) (y * 256) (by omega) (by omega) (by omega) (by omega) (by omega) (by omega)]
  rw [bits_join .i64 62 (by decide) hw 8 (x * 65536 + y * 256) z (by omega) (by omega) (by omega) (by omega) (by omega) (by omega)]
theorem padded3 (gr : List Int) (h : gr.length ≤ 3) : splice [Value.int .u8 0, .int .u8 0, .int .u8 0] 0 (gr.map (Value.int .u8)) = [Value.int .u8 (gr.getD 0 0), .int .u8 (gr.getD 1 0), .int .u8 (gr.getD 2 0)] := by
  match gr, h with
  | [], _ => rfl
  | [a], _ => rfl
  | [a, b], _ => rfl
  | [a, b, c], _ => rfl
theorem grpL_take (gr : List Int) (i : Nat) (h : i < 4) : (grpL gr).take (i + 1) = (grpL gr).take i ++ [grpS gr i] := by
  match i, h with
  | 0, _ => rfl
  | 1, _ => rfl
  | 2, _ => rfl
  | 3, _ => rfl

theorem ib_below {B b : Nat} {bs : List Value} {W W' : World} (h : IsB W B b bs) (hb : Below W.heap.size W W') : IsB W' B b bs := by
  rcases h with h | h
  all_goals
    have hlt := h.lt
    obtain ⟨hB, v, hv, hown, hne⟩ := h
  · exact .inl ⟨hB, v, (hb.block b hlt).trans hv, hown.kept (row := none) ⟨hb.os, hb.tape, hb.output, hb.size, fun k hk _ => hb.block k hk⟩ (Classical.em _), hne⟩
  · exact .inr ⟨hB, v, (hb.block b hlt).trans hv, hown.kept (row := none) ⟨hb.os, hb.tape, hb.output, hb.size, fun k hk _ => hb.block k hk⟩ (Classical.em _), hne⟩
/-- behind a group written -/
def GroupRes (w : World) (B b : Nat) (bs : List Value) (gr : List Int) (e : Ending) (w' : World) : Prop :=
  e = .returned (.tuple #[]) ∧ AtB w' B b (bs ++ Lib.byteCells (grpL gr)) ∧ Below B w w' ∧ KeptB b w w'

set_option maxRecDepth 100000 in
set_option maxHeartbeats 3200000 in
theorem writeGroup_any (B b g o m c : Nat) (bs : List Value) (gr : List Int) (w : World) (hB : IsB w B b bs) (hlen : bs.length ≤ 900000) (hBw : B ≤ w.heap.size) (hm1 : 1 ≤ m) (hm3 : m ≤ 3) (hl : gr.length = m) (hby : ∀ i, 0 ≤ gr.getD i 0 ∧ gr.getD i 0 ≤ 255) (hg : g < w.heap.size)
    (hx : ∀ i, i < m → w.cell? ⟨g, o + i, none⟩ = some (.int .u8 (gr.getD i 0))) :
    Calls Try.prog 30 #[.pointer (some ⟨b, 0, none⟩), .slice (some ⟨g, o, none⟩) m c] w (GroupRes w B b bs gr) := by
  obtain ⟨i0, hi, hz0, hz1, hz2⟩ := info_parts cpInfo
  have hsz1 : (Try.prog.info? 5).map (·.size) = some 1 := by rw [hi]; exact congrArg some hz1
  have HX := Lib.hid hx
  have HIB := Lib.hid hB
  have HPD := Lib.hid (padded3 gr (by omega))
  have hNb : 0 ≤ gr.getD 0 0 * 65536 + gr.getD 1 0 * 256 + gr.getD 2 0 := by have := hby 0; have := hby 1; have := hby 2; omega
  have HJ := Lib.hid (joined _ _ _ (hby 0) (hby 1) (hby 2))
  have hy0 := hby 0
  have hy1 := hby 1
  have hy2 := hby 2
  have HGN : Hid (grpN gr = gr.getD 0 0 * 65536 + gr.getD 1 0 * 256 + gr.getD 2 0) := Lib.hid rfl
  have HLEN := Lib.hid hl
  unfold GroupRes
  clear hx hB
  go_enter Try.func30, Try.ntmps30
  go_wp2_with (with_reducible refine wpList_copy_splice rfl (.tmp 7) (.tmp 8) 22 22 rfl 5 Try.underlying22 hsz1 (some ⟨w.heap.size, 0, none⟩) (some ⟨g, o, none⟩) 3 3 m c rfl rfl w.heap.size 0 [.int .u8 0, .int .u8 0, .int .u8 0] 64 (heap_alloc_new w _) (gr.map (Value.int .u8)) ?c1 ?c2 ?c3 (oneI gr) w.heap.size w (below1 w _) (Nat.le_refl _) ?_)
  case c1 => simp only [List.length_map, hl]; show m = Nat.min m 3; exact (Nat.min_eq_left hm3).symm
  case c2 =>
    intro _ j v hj
    have hj3 : j < gr.length := by
      rcases Nat.lt_or_ge j gr.length with h1 | h1
      · exact h1
      · rw [List.getElem?_eq_none (by simpa using h1)] at hj; cases hj
    rw [HX.out j (by omega), List.getD_eq_getElem?_getD, hj]
    rfl
  case c3 => simp; omega
  intro w1 hg1 hb1
  rw [HPD.out] at hg1
  have HIB1 := Lib.hid (ib_below HIB.out hb1)
  have HB1 := Lib.hid (hb1.mono hBw)
  have HK1 : Hid (KeptB b w w1) := Lib.hid (fun k o hk _ _ => (hb1.block k (Array.getElem?_eq_some_iff.1 hk).1).trans hk)
  have hz := hb1.size
  have d0 : w1.cell? ⟨w.heap.size, 0, none⟩ = some (.int .u8 (gr.getD 0 0)) := by rw [Lib.cell_of_heap hg1.out]; rfl
  have d1 : w1.cell? ⟨w.heap.size, 1, none⟩ = some (.int .u8 (gr.getD 1 0)) := by rw [Lib.cell_of_heap hg1.out]; rfl
  have d2 : w1.cell? ⟨w.heap.size, 2, none⟩ = some (.int .u8 (gr.getD 2 0)) := by rw [Lib.cell_of_heap hg1.out]; rfl
  have HS : Hid (∀ i, i < 4 → i ≤ m → grpS gr i = sg ((gr.getD 0 0 * 65536 + gr.getD 1 0 * 256 + gr.getD 2 0) / 2 ^ (18 - 6 * i) % 64)) := Lib.hid (fun i _ h => by rw [grpS_in gr i (by omega), HGN.out]; rfl)
  have HS2 : Hid (∀ i, m < i → grpS gr i = 61) := Lib.hid (fun i h => by unfold grpS; rw [if_pos (by omega)])
  have HTK := Lib.hid (fun i h => grpL_take gr i h)
  clear hg1 hb1 HIB HX hby
  generalize gr.getD 0 0 = x0 at *
  generalize gr.getD 1 0 = x1 at *
  generalize gr.getD 2 0 = x2 at *
  obtain ⟨y00, y01⟩ := hy0
  obtain ⟨y10, y11⟩ := hy1
  obtain ⟨y20, y21⟩ := hy2
  have v0 : IntKind.i64.wrap x0 = x0 := IntWalk.i64_in _ (by omega)
  have v1 : IntKind.i64.wrap x1 = x1 := IntWalk.i64_in _ (by omega)
  have v2 : IntKind.i64.wrap x2 = x2 := IntWalk.i64_in _ (by omega)
  have v3 : IntKind.i64.wrap (x0 * 65536) = x0 * 65536 := IntWalk.i64_in _ (by omega)
  have v4 : IntKind.i64.wrap (x1 * 256) = x1 * 256 := IntWalk.i64_in _ (by omega)
  go_wp2
  rw [HJ.out]
  clear HJ v0 v1 v2 v3 v4 d0 d1 d2
  generalize x0 * 65536 + x1 * 256 + x2 = N at *
  clear y00 y01 y10 y11 y20 y21
  go_loopw [23] (fun i wr => ∃ k : Nat, k ≤ 4 ∧ i = .int .i64 k ∧ IsB wr B b (bs ++ Lib.byteCells ((grpL gr).take k)) ∧ Below B w wr ∧ KeptB b w wr ∧ Hid (0 < k → AtB wr B b (bs ++ Lib.byteCells ((grpL gr).take k)))) (fun i _ => 4 - (intOf i).toNat)
  case atStart => exact ⟨0, by omega, rfl, by simpa [Lib.byteCells] using HIB1.out, HB1.out, HK1.out, Lib.hid (fun h => absurd h (by omega))⟩
  case round =>
    clear HIB1 HB1 HK1 hz
    obtain ⟨k, hk, rfl, hI, hB, hKp, HA⟩ := hrel
    have HKP := Lib.hid hKp
    have HI := Lib.hid hI
    have HB := Lib.hid hB
    have hsz := hB.size
    clear hI hB hKp
    have hlk0 : (Lib.byteCells ((grpL gr).take k)).length = k := by rw [Lib.byteCells_length, List.length_take]; show min k 4 = k; omega
    by_cases hlk : k < 4
    · have HT := Lib.hid (HTK.out k hlk)
      by_cases hkm : m < k
      · have KW := Lib.hid (fun W (h : IsB W B b (bs ++ Lib.byteCells ((grpL gr).take k))) (hW : B ≤ W.heap.size) => writeByte_any B b _ 61 W h (by rw [List.length_append, hlk0]; omega) hW)
        have HE := Lib.hid (HS2.out k hkm)
        unfold WroteB at KW
        have q1 : (m : Int) < (k : Int) := by omega
        clear HA hlk0
        go_wp2_with fail
        refine (KW.out _ HI.out (by omega)).mono ?_
        rintro e w2 ⟨rfl, hA2, hB2, hK2⟩
        have HA2 := Lib.hid hA2
        have HB2 := Lib.hid hB2
        have HK2 := Lib.hid (HKP.out.trans hK2)
        clear hA2 hB2 hK2 KW
        go_wp2
        go_roundw
        case rel =>
          have h2 : AtB w2 B b (bs ++ Lib.byteCells ((grpL gr).take (k + 1))) := by
            rw [HT.out, HE.out, Lib.byteCells_append, ← List.append_assoc]; exact HA2.out
          exact ⟨k + 1, by omega, by go_num, .inr h2, HB.out.trans HB2.out, HK2.out, Lib.hid (fun _ => h2)⟩
        case measure => simp [intOf]; omega
      · have HE := Lib.hid (HS.out k hlk (by omega))
        obtain ⟨s, hs⟩ : ∃ s, 18 - 6 * k = s := ⟨_, rfl⟩
        rw [hs] at HE
        have e1 : 18 - 6 * (k : Int) = (s : Int) := by omega
        have hs2 : (s : Int) ≤ 18 := by omega
        have hd0 : 0 ≤ N / 2 ^ s := Int.ediv_nonneg hNb (by have : (0:Int) < 2 ^ s := Int.pow_pos (by decide); omega)
        have r1 : (N / 2 ^ s).tmod 64 = N / 2 ^ s % 64 := Int.tmod_eq_emod_of_nonneg hd0
        have b0 : 0 ≤ N / 2 ^ s % 64 := by omega
        have b1 : N / 2 ^ s % 64 < 64 := by omega
        have KW := Lib.hid (fun W (h : IsB W B b (bs ++ Lib.byteCells ((grpL gr).take k))) (hW : B ≤ W.heap.size) => writeByte_any B b _ ((sg (N / 2 ^ s % 64)).toNat : Int) W h (by rw [List.length_append, hlk0]; omega) hW)
        unfold WroteB at KW
        have q1 : ¬ ((m : Int) < (k : Int)) := by omega
        clear HA hlk0 hs hd0
        go_wp2_with fail
        simp only [signLit]
        refine (KW.out _ HI.out (by omega)).mono ?_
        rintro e w2 ⟨rfl, hA2, hB2, hK2⟩
        have HA2 := Lib.hid hA2
        have HB2 := Lib.hid hB2
        have HK2 := Lib.hid (HKP.out.trans hK2)
        clear hA2 hB2 hK2 KW
        go_wp2
        go_roundw
        case rel =>
          have h2 : AtB w2 B b (bs ++ Lib.byteCells ((grpL gr).take (k + 1))) := by
            rw [HT.out, HE.out, Lib.byteCells_append, ← List.append_assoc]; exact HA2.out
          exact ⟨k + 1, by omega, by go_num, .inr h2, HB.out.trans HB2.out, HK2.out, Lib.hid (fun _ => h2)⟩
        case measure => simp [intOf]; omega
    · obtain rfl : k = 4 := by omega
      have hAt := HA.out (by omega)
      have HAt := Lib.hid hAt
      clear hAt HA hlk0
      go_wp2
      go_end0
      exact ⟨rfl, HAt.out, HB.out, HKP.out⟩
end Go.Proofs.Ytlhflkpbccbofaa
