/- The model's l9Base64. -/
import Derived.Test.YtcaknhoaoodbfaaGreatDoorGC13
import Derived.Test.YtcaknhoaoodbfaaGreatDoorGC40
import Derived.Test.YtcaknhoaoodbfaaGreatDoorGC45
import Derived.StillTailTactics
import Derived.BigQuiet
import Derived.IntWalk
namespace Go.Proofs.YtcaknhoaoodbfaaGreatDoor
open Go.ChangeShapes Go.WideShapes Go.ChangeAt Go.RowKit
set_option linter.unusedVariables false

theorem signAt (i : Nat) (h : i < 64) : ((b64Signs[i]'h).toNat : Int) = ((b64Signs.data.toList.getD i 0).toNat : Int) := by
  rw [List.getD_eq_getElem?_getD, List.getElem?_eq_getElem (by exact h)]
  rfl
def sg (d : Int) : UInt8 := b64Signs.data.toList.getD d.toNat 0
theorem signLit (d : Int) (h : d.toNat < ({ data := #[65, 66, 67, 68, 69, 70, 71, 72, 73, 74, 75, 76, 77, 78, 79, 80, 81, 82, 83, 84, 85, 86, 87, 88, 89, 90, 97, 98, 99, 100, 101, 102, 103, 104, 105, 106, 107, 108, 109, 110, 111, 112, 113, 114, 115, 116, 117, 118, 119, 120, 121, 122, 48, 49, 50, 51, 52, 53, 54, 55, 56, 57, 43, 47] } : ByteArray).size) : ((({ data := #[65, 66, 67, 68, 69, 70, 71, 72, 73, 74, 75, 76, 77, 78, 79, 80, 81, 82, 83, 84, 85, 86, 87, 88, 89, 90, 97, 98, 99, 100, 101, 102, 103, 104, 105, 106, 107, 108, 109, 110, 111, 112, 113, 114, 115, 116, 117, 118, 119, 120, 121, 122, 48, 49, 50, 51, 52, 53, 54, 55, 56, 57, 43, 47] } : ByteArray)[d.toNat]'h).toNat : Int) = ((sg d).toNat : Int) := signAt d.toNat h
theorem cut1 (s0 s1 s2 s3 : UInt8) : (⟨[s0, s1, s2, s3].toArray⟩ : ByteArray).extract 0 2 ++ (⟨#[61, 61]⟩ : ByteArray).extract 0 2 = ⟨[s0, s1, 61, 61].toArray⟩ := by rfl
theorem cut2 (s0 s1 s2 s3 : UInt8) : (⟨[s0, s1, s2, s3].toArray⟩ : ByteArray).extract 0 3 ++ (⟨#[61, 61]⟩ : ByteArray).extract 0 1 = ⟨[s0, s1, s2, 61].toArray⟩ := by rfl
theorem grpS_in (g : List Int) (i : Nat) (h : i ≤ g.length) : grpS g i = b64Signs.data.toList.getD (grpN g / 2 ^ (18 - 6 * i) % 64).toNat 0 := by
  unfold grpS
  rw [if_neg (by omega)]
theorem four_str (W : World) (s0 s1 s2 s3 : UInt8) : Row ((W.alloc (.cells #[.int .u8 (s0.toNat : Int), .int .u8 (s1.toNat : Int), .int .u8 (s2.toNat : Int), .int .u8 (s3.toNat : Int)] 5)).drew) .u8 (.slice (some ⟨W.heap.size, 0, none⟩) 4 4) [(s0.toNat : Int), (s1.toNat : Int), (s2.toNat : Int), (s3.toNat : Int)] := by
  have := lit_owns W 5 .u8 [(s0.toNat : Int), (s1.toNat : Int), (s2.toNat : Int), (s3.toNat : Int)] 4 rfl (by decide)
  exact Row.of_owns this
theorem str4 (s0 s1 s2 s3 : UInt8) : strOfNums [(s0.toNat : Int), (s1.toNat : Int), (s2.toNat : Int), (s3.toNat : Int)] = ⟨#[s0, s1, s2, s3]⟩ := by
  simp [strOfNums]
theorem InRow.part {w : World} {rb ro n c : Nat} {xs : List Int} (h : InRow w (some ⟨rb, ro, none⟩) n c xs) (k m c' : Nat) (hk : k + m ≤ n) : InRow w (some ⟨rb, ro + k, none⟩) m c' ((xs.drop k).take m) := by
  have hl := h.len
  have hg : ∀ i, i < m → ((xs.drop k).take m).getD i 0 = xs.getD (k + i) 0 := fun i hi => by
    rw [List.getD_eq_getElem?_getD, List.getD_eq_getElem?_getD, List.getElem?_take, if_pos hi, List.getElem?_drop]
  refine ⟨Nat.le_trans (by omega) h.max, by rw [List.length_take, List.length_drop]; omega, fun i => ?_, ?_⟩
  · rcases Nat.lt_or_ge i m with hi | hi
    · rw [hg i hi]; exact h.byte _
    · rw [List.getD_eq_getElem?_getD, List.getElem?_eq_none (by rw [List.length_take]; omega)]
      decide
  · rcases h.row with e | ⟨b', o', e, hb, hc⟩
    · exact .inl (by omega)
    · simp only [Option.some.injEq, Addr.mk.injEq, and_true] at e
      obtain ⟨rfl, rfl⟩ := e
      refine .inr ⟨rb, ro + k, rfl, hb, fun i hi => ?_⟩
      rw [hg i hi, Nat.add_assoc]
      exact hc (k + i) (by omega)
theorem two_u8 (W : World) : ∀ (j : Nat) (u : Value), ([Value.int .u8 0, .int .u8 0])[j]? = some u → (W.alloc (.cells #[.int .u8 0, .int .u8 0] 5)).cell? (Addr.add ⟨W.heap.size, 0, none⟩ j) = some u := by
  intro j u hj
  match j, hj with
  | 0, hj => simp at hj; subst hj; simp [Addr.add]
  | 1, hj => simp at hj; subst hj; simp [Addr.add]

set_option maxRecDepth 100000 in
set_option maxHeartbeats 3200000 in
theorem l9Base64_any (a : Option Addr) (n c : Nat) (xs : List Int) (w : World) (hn : n ≤ 3000) (hnc : n ≤ c) (h : InRow w a n c xs) :
    Calls Tryz.prog 98 #[.slice a n c] w fun e w' => e = .returned (.string ⟨(b64L xs).toArray⟩) ∧ Below w.heap.size w w' := by
  obtain ⟨i0, hi, hz0, hz1, hz2⟩ := info_parts cpInfo
  have HX := Lib.hid h
  have HL := Lib.hid h.len
  clear h
  go_enter Tryz.func98, Tryz.ntmps98
  go_wp2
  go_loopw [4, 5] (fun o i wr => ∃ k : Nat, 3 * k ≤ n + 2 ∧ i = .int .i64 ((3 * k : Nat) : Int) ∧ o = .string ⟨(b64Pre xs k).toArray⟩ ∧ Below w.heap.size w wr) (fun _ i _ => n + 3 - (intOf i).toNat)
  case atStart => exact ⟨0, by omega, rfl, rfl, Below.refl _ _⟩
  case round =>
    obtain ⟨k, hk, rfl, rfl, hb⟩ := hrel
    have HB := Lib.hid hb
    have hsz := hb.size
    clear hb
    by_cases hlk : 3 * k < n
    · obtain ⟨rb, ro, rfl, hrb, hcl⟩ := HX.out.row.resolve_left (by omega)
      obtain ⟨m, hm⟩ : ∃ m, min 3 (n - 3 * k) = m := ⟨_, rfl⟩
      have hm1 : 1 ≤ m := by omega
      have hm3 : m ≤ 3 := by omega
      have hmn : 3 * k + m ≤ n := by omega
      have HP := Lib.hid (HX.out.part (3 * k) m (c - 3 * k) hmn)
      have hg : (xs.drop (3 * k)).take m = grpAt xs k := by
        unfold grpAt
        rw [← hm]
        apply List.ext_getElem?
        intro j
        rw [List.getElem?_take, List.getElem?_take]
        by_cases h3 : j < 3
        · rw [if_pos h3]
          by_cases hj : j < n - 3 * k
          · rw [if_pos (by omega)]
          · rw [if_neg (by omega), List.getElem?_drop, List.getElem?_eq_none (by have := HL.out; omega)]
        · rw [if_neg h3, if_neg (by omega)]
      rw [hg] at HP
      have hgl : (grpAt xs k).length = m := by rw [grpAt_length, HL.out, hm]
      have HMS := Lib.hid (b64Pre_succ xs k)
      have hgm : ∀ x ∈ grpAt xs k, 0 ≤ x ∧ x ≤ 255 := grpAt_mem (fun x hx => by
        obtain ⟨i, hi, rfl⟩ := List.getElem_of_mem hx
        have := HX.out.byte i
        rwa [List.getD_eq_getElem?_getD, List.getElem?_eq_getElem hi] at this) k
      have hN := grpN_bounds hgm
      generalize grpAt xs k = gr at *
      have KM := Lib.hid (fun W => l1Min_any (((3 * k : Nat) : Int) + 3) (n : Int) W)
      have hmin : minI (((3 * k : Nat) : Int) + 3) (n : Int) = ((3 * k + m : Nat) : Int) := by unfold minI; split <;> omega
      rw [hmin] at KM
      have KC := Lib.hid (fun W (hb : Below w.heap.size w W) => l1Copy_any (some ⟨rb, ro + 3 * k, none⟩) m (c - 3 * k) gr W (by omega) (by simp) (in_below HP.out hb))
      unfold OwnsRes at KC
      have q1 : ((3 * k : Nat) : Int) < (n : Int) := by omega
      have q2 : IntKind.i64.wrap (((3 * k : Nat) : Int) + 3) = ((3 * k : Nat) : Int) + 3 := IntWalk.i64_in _ (by omega)
      have q3 : 3 * k + m ≤ c := by omega
      have q4 : 3 * k + m - 3 * k = m := by omega
      have HM := Lib.hid hm
      clear hcl hmin hg hm
      go_wp2_with fail
      refine (KM.out _).mono ?_
      rintro e w1 ⟨rfl, rfl⟩
      go_wp2_with fail
      refine (KC.out _ HB.out).mono ?_
      rintro e w2 ⟨a2, n2, c2, rfl, ho2, hb2⟩
      have hn2 : n2 = m := (owns_length ho2).trans hgl
      subst hn2
      have HO2 := Lib.hid ho2
      have HB2 := Lib.hid hb2
      have hz2' := hb2.size
      clear ho2 hb2 KC KM
      go_wp2_with (at_builtin; refine wpList_append_own _ rfl _ _ 22 rfl w1.heap.size 5 i0 (.int .u8 0) 1 1 Tryz.underlying22 hi hz0 hz1 hz2 rfl (by decide) _ n2 _ rfl (HO2.out.alloc _) ⟨w2.heap.size, 0, none⟩ 2 2 [.int .u8 0, .int .u8 0] rfl rfl (two_u8 w2) (by simp [Value.oneCell']) (by unfold maxLen; omega) (by omega) (by simp; omega) ?_)
      intro v' w3 hown hgrow _
      obtain ⟨a3, c3, rfl⟩ := owns_slice hown
      have HB3 := Lib.hid (HB.out.trans ((below_appended HB2.out HO2.out hgrow).mono hsz))
      obtain ⟨g3, rfl⟩ : ∃ g, a3 = some ⟨g, 0, none⟩ := by
        rcases hown.2 with ⟨hv, h0⟩ | ⟨g, cap, cur, hv, _⟩
        · simp at h0
        · simp only [Value.slice.injEq] at hv
          exact ⟨g, hv.1⟩
      have hcl : ∀ j, j < 3 → w3.cell? ⟨g3, j, none⟩ = some (.int .u8 (gr.getD j 0)) := fun j hj => by
        rw [hown.cellAt j (by omega), show List.map (Value.int .u8) gr ++ [Value.int .u8 0, .int .u8 0] = (gr ++ [0, 0]).map (Value.int .u8) by simp, List.getElem?_map, List.getElem?_eq_getElem (by simp; omega), List.getD_eq_getElem?_getD]
        rw [List.getElem_append]
        split
        · rw [List.getElem?_eq_getElem (by assumption)]; rfl
        · rename_i h4
          rw [List.getElem?_eq_none (by omega)]
          have h5 : j - gr.length = 0 ∨ j - gr.length = 1 := by omega
          rcases h5 with h5 | h5 <;> simp [h5]
      have hby : ∀ j, 0 ≤ gr.getD j 0 ∧ gr.getD j 0 ≤ 255 := HP.out.byte
      have d0 := hcl 0 (by decide)
      have d1 := hcl 1 (by decide)
      have d2 := hcl 2 (by decide)
      have y0 := hby 0
      have y1 := hby 1
      have y2 := hby 2
      have HG : Hid (grpN gr = gr.getD 0 0 * 65536 + gr.getD 1 0 * 256 + gr.getD 2 0) := Lib.hid rfl
      have HS0 := Lib.hid (grpS_in gr 0 (by omega))
      have HS1 := Lib.hid (grpS_in gr 1 (by omega))
      have HGR : Hid (grpL gr = [grpS gr 0, grpS gr 1, grpS gr 2, grpS gr 3]) := Lib.hid rfl
      have HS2 := Lib.hid (fun h => grpS_in gr 2 h)
      have HS3 := Lib.hid (fun h => grpS_in gr 3 h)
      have HGM : Hid (gr.length = n2) := Lib.hid hgl
      have HS2' : Hid (n2 < 2 → grpS gr 2 = 61) := Lib.hid (fun h => by unfold grpS; rw [if_pos (by omega)])
      have HS3' : Hid (n2 < 3 → grpS gr 3 = 61) := Lib.hid (fun h => by unfold grpS; rw [if_pos (by omega)])
      generalize gr.getD 0 0 = x0 at *
      generalize gr.getD 1 0 = x1 at *
      generalize gr.getD 2 0 = x2 at *
      obtain ⟨y00, y01⟩ := y0
      obtain ⟨y10, y11⟩ := y1
      obtain ⟨y20, y21⟩ := y2
      have v0 : IntKind.i64.wrap x0 = x0 := IntWalk.i64_in _ (by omega)
      have v1 : IntKind.i64.wrap x1 = x1 := IntWalk.i64_in _ (by omega)
      have v2 : IntKind.i64.wrap x2 = x2 := IntWalk.i64_in _ (by omega)
      have v3 : IntKind.i64.wrap (x0 * 65536) = x0 * 65536 := IntWalk.i64_in _ (by omega)
      have v4 : IntKind.i64.wrap (x1 * 256) = x1 * 256 := IntWalk.i64_in _ (by omega)
      have v5 : IntKind.i64.wrap (x0 * 65536 + x1 * 256) = x0 * 65536 + x1 * 256 := IntWalk.i64_in _ (by omega)
      have v6 : IntKind.i64.wrap (x0 * 65536 + x1 * 256 + x2) = x0 * 65536 + x1 * 256 + x2 := IntWalk.i64_in _ (by omega)
      have z0 : (0 : Int) < (n2 : Int) + 2 := by omega
      have z1 : (1 : Int) < (n2 : Int) + 2 := by omega
      have z2 : (2 : Int) < (n2 : Int) + 2 := by omega
      clear hown hgrow hcl hby hgl HO2 HB2 hgm hN
      go_wp2
      refine wp_region_still_lit (by kernel_rfl) (by kernel_rfl) ?_
      repeat still_step
      refine wpStill_nil ?_
      rw [show ({ w3 with drawn := w3.drawn + 1 } : World) = w3.drew from rfl]
      have HB4 := Lib.hid (HB3.out.drew)
      have T0 : Hid (grpS gr 0 = sg ((x0 * 65536 + x1 * 256 + x2) / 262144)) := Lib.hid (by rw [HS0.out, HG.out]; unfold sg; congr 2; omega)
      have T1 : Hid (grpS gr 1 = sg ((x0 * 65536 + x1 * 256 + x2) / 4096 % 64)) := Lib.hid (by rw [HS1.out, HG.out]; rfl)
      have T2 : Hid (2 ≤ n2 → grpS gr 2 = sg ((x0 * 65536 + x1 * 256 + x2) / 64 % 64)) := Lib.hid (fun h => by rw [HS2.out (by have := HGM.out; omega), HG.out]; rfl)
      have T3 : Hid (3 ≤ n2 → grpS gr 3 = sg ((x0 * 65536 + x1 * 256 + x2) % 64)) := Lib.hid (fun h => by rw [HS3.out (by have := HGM.out; omega), HG.out]; unfold sg; congr 2; simp)
      clear HS0 HS1 HS2 HS3 HG
      have hN0 : 0 ≤ x0 * 65536 + x1 * 256 + x2 := by omega
      have hN1 : x0 * 65536 + x1 * 256 + x2 ≤ 16777215 := by omega
      clear v0 v1 v2 v3 v4 v5 v6 d0 d1 d2 z0 z1 z2
      generalize x0 * 65536 + x1 * 256 + x2 = N at *
      clear y00 y01 y10 y11 y20 y21
      generalize w3.drew = W at HB4 ⊢
      have p0 : IntKind.i64.wrap (N.tdiv 262144) = N / 262144 := IntWalk.i64_quo _ _ (by omega)
      have p1 : IntKind.i64.wrap (N.tdiv 4096) = N / 4096 := IntWalk.i64_quo _ _ (by omega)
      have p2 : IntKind.i64.wrap (N.tdiv 64) = N / 64 := IntWalk.i64_quo _ _ (by omega)
      have r1 : (N / 4096).tmod 64 = N / 4096 % 64 := Int.tmod_eq_emod_of_nonneg (by omega)
      have r2 : (N / 64).tmod 64 = N / 64 % 64 := Int.tmod_eq_emod_of_nonneg (by omega)
      have r3 : N.tmod 64 = N % 64 := Int.tmod_eq_emod_of_nonneg (by omega)
      have b0 : 0 ≤ N / 262144 := by omega
      have b1 : N / 262144 < 64 := by omega
      have b2 : 0 ≤ N / 4096 % 64 := by omega
      have b3 : N / 4096 % 64 < 64 := by omega
      have b4 : 0 ≤ N / 64 % 64 := by omega
      have b5 : N / 64 % 64 < 64 := by omega
      have b6 : 0 ≤ N % 64 := by omega
      have b7 : N % 64 < 64 := by omega
      go_wp2
      refine wp_region_still_tail 18 (by kernel_rfl) (by kernel_rfl) ?_
      simp only [List.take_succ_cons, List.take_zero, List.drop_succ_cons, List.drop_zero]
      repeat still_step
      refine wpStill_nil ?_
      change wpList _ _ _ _ _ W.drew
      simp only [signLit]
      generalize sg (N / 262144) = s0 at T0 ⊢
      generalize sg (N / 4096 % 64) = s1 at T1 ⊢
      generalize sg (N / 64 % 64) = s2 at T2 ⊢
      generalize sg (N % 64) = s3 at T3 ⊢
      have hcv := conv_row (P := Tryz.prog) _ Tryz.underlying22 Tryz.underlying5 Tryz.underlying9 (four_str W s0 s1 s2 s3)
      rw [str4] at hcv
      have hps : (⟨#[s0, s1, s2, s3]⟩ : ByteArray).size = 4 := rfl
      have hp2 : (⟨#[61, 61]⟩ : ByteArray).size = 2 := rfl
      obtain ⟨pc, hpc⟩ : ∃ pc, (⟨#[s0, s1, s2, s3]⟩ : ByteArray) = pc := ⟨_, rfl⟩
      rw [hpc] at hcv hps
      have HPC : Hid (pc = ⟨[s0, s1, s2, s3].toArray⟩) := Lib.hid hpc.symm
      clear hpc
      have ho : (⟨(b64Pre xs k).toArray⟩ : ByteArray).size = 4 * k := by show (b64Pre xs k).toArray.size = _; rw [List.size_toArray, b64Pre_length]
      have HOE : Hid (∀ l : List UInt8, (⟨(b64Pre xs k).toArray⟩ : ByteArray) ++ (⟨l.toArray⟩ : ByteArray) = ⟨(b64Pre xs k ++ l).toArray⟩) := Lib.hid (fun l => by apply ByteArray.ext; simp)
      generalize (⟨(b64Pre xs k).toArray⟩ : ByteArray) = o at ho HOE ⊢
      clear p0 p1 p2 r1 r2 r3 b0 b1 b2 b3 b4 b5 b6 b7 hN0 hN1
      have hcase : n2 = 1 ∨ n2 = 2 ∨ n2 = 3 := by omega
      rcases hcase with rfl | rfl | rfl
      · have e1 : IntKind.i64.wrap ((n : Int) - 3 * (k : Int)) = 1 := by rw [show (n : Int) - 3 * (k : Int) = 1 by have := HM.out; omega]; decide
        go_wp2
        go_quiet (fail)
        go_wp2
        go_roundw
        case rel => exact ⟨k + 1, by omega, by go_num, by rw [HPC.out, cut1, HOE.out, HMS.out, HGR.out, T0.out, T1.out, HS2'.out (by decide), HS3'.out (by decide)], below_drewN (HB4.out.alloc HB4.out.size _) _⟩
        case measure => simp [intOf]; omega
      · have e1 : IntKind.i64.wrap ((n : Int) - 3 * (k : Int)) = 2 := by rw [show (n : Int) - 3 * (k : Int) = 2 by have := HM.out; omega]; decide
        go_wp2
        go_quiet (fail)
        go_wp2
        go_roundw
        case rel => exact ⟨k + 1, by omega, by go_num, by rw [HPC.out, cut2, HOE.out, HMS.out, HGR.out, T0.out, T1.out, T2.out (by decide), HS3'.out (by decide)], below_drewN (HB4.out.alloc HB4.out.size _) _⟩
        case measure => simp [intOf]; omega
      · have e1 : IntKind.i64.wrap ((n : Int) - 3 * (k : Int)) = (n : Int) - 3 * (k : Int) := IntWalk.i64_in _ (by omega)
        have e2 : ¬ ((n : Int) - 3 * (k : Int) < 3) := by have := HM.out; omega
        go_wp2
        go_roundw
        case rel => exact ⟨k + 1, by omega, by go_num, by rw [HPC.out, HOE.out, HMS.out, HGR.out, T0.out, T1.out, T2.out (by decide), T3.out (by decide)], (HB4.out.alloc HB4.out.size _).drew⟩
        case measure => simp [intOf]; omega
    · have hkn : k = b64N xs := by unfold b64N; rw [HL.out]; omega
      have e2 : ¬ (((3 * k : Nat) : Int) < (n : Int)) := by omega
      have HK := Lib.hid hkn
      clear hkn
      go_wp2
      go_ret
      exact ⟨by rw [HK.out]; rfl, HB.out⟩
end Go.Proofs.YtcaknhoaoodbfaaGreatDoor
