/- The program's readFirst: what the root says. -/
import Derived.Test.YtjkmgpomcnplnaaGreatDoorGS34
import Derived.Test.YtjkmgpomcnplnaaGreatDoorGS35
import Derived.Carry
import Derived.Test.YtjkmgpomcnplnaaGreatDoorGS15
import Derived.Test.YtjkmgpomcnplnaaGreatDoorGS0
import Derived.Test.YtjkmgpomcnplnaaGreatDoorGS12
import Derived.Lib.ParseIntBCases
namespace Go.Proofs.YtjkmgpomcnplnaaGreatDoor
open Go.ChangeShapes Go.WideShapes Go.ChangeAt Go.RowKit
set_option linter.unusedSimpArgs false
set_option linter.unusedVariables false
theorem map_only {Q : Nat → Prop} {P : Program} {k : TypeId} {R : Value → Option (DataW Unit × List MemPlace)} {w w' : World} {b n : Nat} {D : DataW Unit} (h : w.ownsMap P k R b n D) (ho : Only Q w w') (hn : ¬ Q b) : w'.ownsMap P k R b n D := by
  have hlt := h.lt
  obtain ⟨es, clock, hb, r⟩ := h
  exact ⟨es, clock, (ho.block b hlt hn).trans hb, r⟩
structure MayAt (w0 w : World) (pb m : Nat) (D : DataW Unit) (ts : List ByteArray) (g : ByteArray → Nat) : Prop where
  own : w.ownsMap Tryz.prog 9 (methElem pb) m 3 D
  may : May D ts g
  ge : w0.heap.size ≤ m
  ne : m ≠ pb
theorem MayAt.below {w0 w w' : World} {pb m : Nat} {D : DataW Unit} {ts : List ByteArray} {g : ByteArray → Nat} (h : MayAt w0 w pb m D ts g) (hb : Below w.heap.size w w') : MayAt w0 w' pb m D ts g :=
  ⟨map_only h.own (Only.below (P := fun _ => False) hb) id, h.may, h.ge, h.ne⟩
def MetRes (w0 : World) (pb m : Nat) (a : Option Addr) (n c : Nat) (ts : List ByteArray) (x : ByteArray) (g : ByteArray → Nat) (r : Option Pr) (bb : Bool) (w' : World) : Prop :=
  ∃ (q : Pr) (D : DataW Unit), PrMut w0 w' pb q a n c ∧ MayAt w0 w' pb m D (leftT ts [x]) g ∧ (bb = true → r = some q) ∧ (bb = false → r = none)
open Classical in
theorem meet_root {x : At} (hx : x.name ∈ rootTs) (hs : x.name.size ≤ maxLen) (pb m : Nat) (p : Pr) (a : Option Addr) (n c : Nat) (D : DataW Unit) (ts : List ByteArray) (w0 w : World) (h : PrMut w0 w pb p a n c) (hm : MayAt w0 w pb m D ts rootG) (hin : x.name ∈ ts) :
    Calls Tryz.prog 71 #[.map (some m), .string x.name, .string x.value] w fun e w2 => ∃ b, e = .returned (.bool b) ∧ MetRes w0 pb m a n c ts x.name rootG (rootOne x p) b w2 := by
  refine meet_yes pb m 3 D ts rootG x.name x.value w hs hm.own hm.may hin (fun b w2 => MetRes w0 pb m a n c ts x.name rootG (rootOne x p) b w2) (fun args W => rootG_enters hx args W) fun w' hown hturn => ?_
  have ho := Only.grown hturn.grown
  have hp := h.only ho (fun e => hm.ne (Option.some.inj e).symm) (fun i hi => by have := hm.ge; have := Option.some.inj hi; omega)
  refine (rootG_reads hx pb p a n c w0 w' hp).mono ?_
  rintro e w2 ⟨bb, q, rfl, hq, ho2, h1, h2⟩
  have hd := hm.may.del x.name
  have e : (ts.filter fun t => decide (t ≠ x.name)) = leftT ts [x.name] := by
    unfold leftT
    congr 1
    funext t
    simp
  rw [e] at hd
  exact ⟨bb, rfl, q, _, hq, ⟨map_only hown ho2 hm.ne, hd, hm.ge, hm.ne⟩, h1, h2⟩
theorem leftT_next (ts sn : List ByteArray) (x : ByteArray) : leftT (leftT ts sn) [x] = leftT ts (sn ++ [x]) := by
  unfold leftT
  rw [List.filter_filter]
  congr 1
  funext t
  by_cases h1 : t ∈ sn <;> by_cases h2 : t = x <;> simp [h1, h2]
set_option maxRecDepth 100000 in
set_option maxHeartbeats 3200000 in
theorem readFirst_any (pb : Nat) (x : It) (xa : Option Addr) (xn xc : Nat) (p : Pr) (a : Option Addr) (n c : Nat) (w0 w : World) (hg : itemCode x = 0) (hat : AtsAt w0 xa xn xc x.attrs) (h : PrMut w0 w pb p a n c) :
    Calls Tryz.prog 39 #[.pointer (some ⟨pb, 0, none⟩), .agg #[.int .i64 x.depth, .string x.text, .string x.space, .string x.name, .slice xa xn xc]] w (RootRes w0 pb a n c (rootP x p)) := by
  have hmm := @run_makeMap Tryz.prog
  have H := Lib.hid h
  have HAT := Lib.hid hat
  have HRI := Lib.hid (atts_rise hg)
  have H5 := Lib.hid (atts_small hg).1
  have hplt := h.is.lt
  have hpge := h.ge
  by_cases hs : x.space.toList = csL
  case neg =>
    have hr : rootP x p = none := by unfold rootP; rw [if_neg fun q => hs q.2]
    rw [hr]
    unfold csL at hs
    have hs2 : (x.space.toList == [106, 97, 98, 98, 101, 114, 58, 99, 108, 105, 101, 110, 116]) = false := by simpa using hs
    clear hs h hat
    go_enter Tryz.func39, Tryz.ntmps39
    go_wp2
    go_ret
    exact ⟨false, p, rfl, H.out.keep (below1 _ _), by simp, fun _ => rfl⟩
  by_cases hn : x.name.toList = [112, 114, 101, 115, 101, 110, 99, 101]
  case neg =>
    have hr : rootP x p = none := by unfold rootP; rw [prT_list, if_neg fun q => hn q.1]
    rw [hr]
    unfold csL at hs
    have hs2 : (x.space.toList == [106, 97, 98, 98, 101, 114, 58, 99, 108, 105, 101, 110, 116]) = true := by simpa using hs
    have hn2 : (x.name.toList == [112, 114, 101, 115, 101, 110, 99, 101]) = false := by simpa using hn
    clear hs hn h hat
    go_enter Tryz.func39, Tryz.ntmps39
    go_wp2
    go_ret
    exact ⟨false, p, rfl, H.out.keep (below1 _ _), by simp, fun _ => rfl⟩
  have hr : rootP x p = rootF x.attrs x.attrs.length 0 p := by unfold rootP; rw [prT_list, if_pos ⟨hn, hs⟩]
  rw [hr]
  unfold csL at hs
  have hs2 : (x.space.toList == [106, 97, 98, 98, 101, 114, 58, 99, 108, 105, 101, 110, 116]) = true := by simpa using hs
  have hn2 : (x.name.toList == [112, 114, 101, 115, 101, 110, 99, 101]) = true := by simpa using hn
  clear hs hn hr h hat
  obtain ⟨xd, xt, xs, xm, xl⟩ := x
  dsimp only at hs2 hn2 HAT HRI H5 ⊢
  have HLEN := Lib.hid HAT.out.len
  rw [HLEN.out] at H5 ⊢
  obtain ⟨r0, hr0⟩ : ∃ r0, rootF xl xn 0 p = r0 := ⟨_, rfl⟩
  rw [hr0]
  have HR0 := Lib.hid hr0
  clear hr0
  have HM0 : Hid (((w.alloc (.cells #[.int .i64 xd, .string xt, .string xs, .string xm, .slice xa xn xc] 54)).alloc (.map #[] 0)).ownsMap Tryz.prog 9 (methElem pb) (w.heap.size + 1) 0 (.map [])) := Lib.hid (by
    have h := World.ownsMap_made (w.alloc (.cells #[.int .i64 xd, .string xt, .string xs, .string xm, .slice xa xn xc] 54)) Tryz.prog 9 (methElem pb)
    simpa using h)
  have Q4 : Hid (∀ w1 w2 w3 : World, ((w.alloc (.cells #[.int .i64 xd, .string xt, .string xs, .string xm, .slice xa xn xc] 54)).alloc (.map #[] 0)).mapTurned w1 (w.heap.size + 1) → w1.mapTurned w2 (w.heap.size + 1) → w2.mapTurned w3 (w.heap.size + 1) → w3.cell? ⟨w.heap.size, 4, none⟩ = some (.slice xa xn xc)) := Lib.hid (fun w1 w2 w3 t1 t2 t3 => by
    have e : ((w.alloc (.cells #[.int .i64 xd, .string xt, .string xs, .string xm, .slice xa xn xc] 54)).alloc (.map #[] 0)).cell? ⟨w.heap.size, 4, none⟩ = some (.slice xa xn xc) := by simp
    have hne : ∀ o, some (⟨w.heap.size, o, none⟩ : Addr).block ≠ some (w.heap.size + 1) := fun o e => by have := Option.some.inj e; simp at this
    exact t3.grown.cell (t2.grown.cell (t1.grown.cell e (hne 4)) (hne 4)) (hne 4))
  go_enter Tryz.func39, Tryz.ntmps39
  go_wp2_with (first
    | (refine wpList_insert_in _ rfl _ _ _ 95 rfl 9 93 mkeyLaw Tryz.underlying95 (methElem pb) (w.heap.size + 1) 2 _ rfl HM2.out (by unfold maxLen; omega) _ _ _ rfl rfl (mkeyOf _ (by decide)) _ _ (methElem_is pb _) ?_; intro w3 h3 t3; have HM3 := Lib.hid h3; have HT3 := Lib.hid t3; clear h3 t3; have q4 := Q4.out _ _ _ HT1.out HT2.out HT3.out)
    | (refine wpList_insert_in _ rfl _ _ _ 95 rfl 9 93 mkeyLaw Tryz.underlying95 (methElem pb) (w.heap.size + 1) 1 _ rfl HM1.out (by unfold maxLen; omega) _ _ _ rfl rfl (mkeyOf _ (by decide)) _ _ (methElem_is pb _) ?_; intro w2 h2 t2; have HM2 := Lib.hid h2; have HT2 := Lib.hid t2; clear h2 t2)
    | (refine wpList_insert_in _ rfl _ _ _ 95 rfl 9 93 mkeyLaw Tryz.underlying95 (methElem pb) (w.heap.size + 1) 0 _ rfl HM0.out (by unfold maxLen; omega) _ _ _ rfl rfl (mkeyOf _ (by decide)) _ _ (methElem_is pb _) ?_; intro w1 h1 t1; have HM1 := Lib.hid h1; have HT1 := Lib.hid t1; clear h1 t1))
  have b0 := below2 w (.cells #[.int .i64 xd, .string xt, .string xs, .string xm, .slice xa xn xc] 54) (.map #[] 0)
  have hgr : ∀ j, some (w.heap.size + 1) = some j → w.heap.size ≤ j := fun j hj => by have := Option.some.inj hj; omega
  have b1 := b0.grown HT1.out.grown b0.size hgr
  have b2 := b1.grown HT2.out.grown b1.size hgr
  have b3 := b2.grown HT3.out.grown b2.size hgr
  have HP3 := Lib.hid (H.out.keep b3)
  have HMA : Hid (∃ D, MayAt w0 w3 pb (w.heap.size + 1) D (leftT rootTs (firstNs xl 0)) rootG) := Lib.hid ⟨_, HM3.out, by
    have h := May.three (g := rootG) from_to from_type to_type
    rw [rootG_from, rootG_to, rootG_type] at h
    rw [show firstNs xl 0 = [] from rfl, leftT_nil]
    exact h, by omega, by omega⟩
  clear HM0 HM1 HM2 HM3 HT1 HT2 HT3 Q4 b0 b1 b2 b3 hgr hs2 hn2
  go_wp2
  go_loopw [27] (fun i wr => ∃ (k : Nat) (q : Pr) (D : DataW Unit), k ≤ xn ∧ i = .int .i64 (k : Int) ∧ PrMut w0 wr pb q a n c ∧ MayAt w0 wr pb (w.heap.size + 1) D (leftT rootTs (firstNs xl k)) rootG ∧ r0 = rootF xl (xn - k) k q) (fun i _ => xn - (intOf i).toNat)
  case atStart =>
    obtain ⟨D, hD⟩ := HMA.out
    exact ⟨0, p, D, Nat.zero_le _, rfl, HP3.out, hD, HR0.out.symm⟩
  case round =>
    obtain ⟨k, q, D, hk, rfl, hq, hm, hrr⟩ := hrel
    have HQ := Lib.hid hq
    have HM := Lib.hid hm
    have HRR := Lib.hid hrr
    clear hq hm hrr q4 HMA HP3
    have h5 := H5.out
    by_cases hlt2 : k < xn
    · have q0 : (k : Int) < (xn : Int) := by omega
      have hxl : k < xl.length := by rw [HLEN.out]; exact hlt2
      have HSZ := Lib.hid (HAT.out.size k).1
      obtain ⟨ab, ao, rfl, hab, hcs⟩ := HAT.out.row.resolve_left (by omega)
      have f0 := (HQ.out.below.cell (p := ⟨ab, ao + k * 2, none⟩) hab).trans (hcs k hlt2).1
      have f1 := (HQ.out.below.cell (p := ⟨ab, ao + k * 2 + 1, none⟩) hab).trans (hcs k hlt2).2
      have HST : Hid (∀ s, rootOne (xl.getD k dAt) q = some s → r0 = rootF xl (xn - (k + 1)) (k + 1) s) := Lib.hid fun s e => by
        rw [HRR.out, show xn - k = (xn - (k + 1)) + 1 from by omega]
        exact rootF_step e
      have HNO : Hid (rootOne (xl.getD k dAt) q = none → r0 = none) := Lib.hid fun e => by
        rw [HRR.out, show xn - k = (xn - (k + 1)) + 1 from by omega]
        exact rootF_stop e
      have HLF := Lib.hid (left_root HRI.out hxl)
      have HNX := Lib.hid (firstNs_more xl k)
      clear hcs HRR
      generalize xl.getD k dAt = y at f0 f1 HST HNO HLF HNX HSZ
      have HQ1 := Lib.hid (HQ.out.keep (below1 wr (.cells #[.string y.name, .string y.value] 52)))
      have HM1 := Lib.hid (HM.out.below (below1 wr (.cells #[.string y.name, .string y.value] 52)))
      by_cases hin : y.name ∈ rootTs
      · go_wp2_with fail
        refine (meet_root hin (by unfold maxLen; exact HSZ.out) pb (w.heap.size + 1) q a n c D _ w0 _ HQ1.out HM1.out (HLF.out.2 hin)).mono ?_
        rintro e w2 ⟨bb, rfl, q2, D2, hq2, hm2, h1, h2⟩
        have HQ2 := Lib.hid hq2
        have HM2 := Lib.hid hm2
        have HH1 := Lib.hid h1
        have HH2 := Lib.hid h2
        clear hq2 hm2 h1 h2
        cases bb
        · go_wp2
          go_ret
          exact ⟨false, q2, rfl, HQ2.out, by simp, fun _ => HNO.out (HH2.out trivial)⟩
        · go_wp2
          go_roundw
          case rel =>
            refine ⟨k + 1, q2, D2, by omega, by go_num, HQ2.out, ?_, HST.out _ (HH1.out trivial)⟩
            have := HM2.out
            rw [leftT_next] at this
            rw [HNX.out]
            exact this
          case measure => simp [intOf]; omega
      · go_wp2_with fail
        refine (meet_no pb (w.heap.size + 1) 3 D _ rootG y.name y.value _ (by unfold maxLen; exact HSZ.out) HM1.out.own HM1.out.may (fun e => hin (HLF.out.1 e))).mono ?_
        rintro e w2 ⟨rfl, rfl⟩
        go_wp2
        go_ret
        exact ⟨false, q, rfl, HQ1.out, by simp, fun _ => HNO.out (rootOne_out hin)⟩
    · obtain rfl : k = xn := by omega
      have hr0 := HRR.out
      rw [Nat.sub_self] at hr0
      go_wp2
      go_ret
      exact ⟨true, q, rfl, HQ.out, fun _ => hr0, by simp⟩
def numOfCode (l : List UInt8) : Int := if (numOf l).isSome then 0 else 5
def numOfVal (l : List UInt8) : Int := (numOf l).getD 0
def Res2 (w : World) (x y : Int) (e : Ending) (w' : World) : Prop := e = .returned (.agg #[.int .i64 x, .int .i64 y]) ∧ Below w.heap.size w w'
end Go.Proofs.YtjkmgpomcnplnaaGreatDoor
namespace Go.Proofs.YtjkmgpomcnplnaaGreatDoor
open Go.ChangeShapes Go.WideShapes Go.ChangeAt Go.RowKit Go.Shelf
set_option linter.unusedVariables false
theorem parseM_dig (M acc x : Nat) (r : List UInt8) (hx : x < 10) (ha : acc < 1000) (hM : 10000 ≤ M) : Lib.parseUintM M acc (UInt8.ofNat (48 + x) :: r) = Lib.parseUintM M (acc * 10 + x) r := by
  have e : (UInt8.ofNat (48 + x)).toNat = 48 + x := by
    have hc : x = 0 ∨ x = 1 ∨ x = 2 ∨ x = 3 ∨ x = 4 ∨ x = 5 ∨ x = 6 ∨ x = 7 ∨ x = 8 ∨ x = 9 := by omega
    rcases hc with rfl | rfl | rfl | rfl | rfl | rfl | rfl | rfl | rfl | rfl <;> rfl
  rw [Lib.parseUintM, e, if_pos (by omega), if_neg (by omega), if_neg (by omega)]
  congr 1
  omega
theorem parseM_digT (M n : Nat) (hn : n < 1000) (hM : 10000 ≤ M) : Lib.parseUintM M 0 (digT n).data.toList = .ok n := by
  by_cases h : n < 10
  · rw [digT_small h, dig_data n h, parseM_dig M 0 n [] h (by omega) hM, Lib.parseUintM]
    simp
  · by_cases h2 : n / 10 < 10
    · rw [digT_data h, digT_small h2, dig_data _ h2, List.singleton_append, parseM_dig M _ _ _ h2 (by omega) hM, parseM_dig M _ _ _ (by omega) (by omega) hM, Lib.parseUintM]
      congr 1
      omega
    · have h3 : n / 10 / 10 < 10 := by omega
      rw [digT_data h, digT_data h2, digT_small h3, dig_data _ h3, List.append_assoc, List.singleton_append, List.singleton_append, parseM_dig M _ _ _ h3 (by omega) hM, parseM_dig M _ _ _ (by omega) (by omega) hM, parseM_dig M _ _ _ (by omega) (by omega) hM, Lib.parseUintM]
      congr 1
      omega
theorem parse_numT (m : Int) (h1 : -999 ≤ m) (h2 : m ≤ 999) : Lib.parseIntB 64 (numT m).data.toList = .ok m := by
  have hM : 10000 ≤ 2 ^ 64 - 1 := by decide
  have hd := parseM_digT (2 ^ 64 - 1) m.natAbs (by omega) hM
  obtain ⟨c, t, e, hc⟩ := digT_head m.natAbs
  have hU : Lib.parseUintB 64 (digT m.natAbs).data.toList = .ok m.natAbs := by
    unfold Lib.parseUintB
    rw [if_neg (by rw [e]; simp), hd]
  have hall := (numF_dig m.natAbs).1
  by_cases hm : m < 0
  · have hT : (numT m).data.toList = 45 :: (digT m.natAbs).data.toList := by
      unfold numT
      rw [if_pos hm, ByteArray.data_append, Array.toList_append]
      rfl
    rw [hT, Lib.parseIntB_minus, hU]
    have h63 : ¬ (2 ^ (64 - 1) < m.natAbs) := by
      have : (2 : Nat) ^ (64 - 1) = 9223372036854775808 := by decide
      omega
    show (if 2 ^ (64 - 1) < m.natAbs then _ else _) = _
    rw [if_neg h63]
    congr 1
    omega
  · have hT : (numT m).data.toList = (digT m.natAbs).data.toList := by unfold numT; rw [if_neg hm]
    have h43 : c ≠ 43 := by
      rintro rfl
      rw [e, List.all_cons, Bool.and_eq_true] at hall
      exact absurd hall.1 (by decide)
    have n43 : c.toNat ≠ 43 := fun x => h43 (UInt8.toNat_inj.1 x)
    have n45 : c.toNat ≠ 45 := fun x => hc (UInt8.toNat_inj.1 x)
    rw [hT, e, Lib.parseIntB_plain 64 c t n43 n45, ← e, hU]
    have h63 : ¬ (2 ^ (64 - 1) ≤ m.natAbs) := by
      have : (2 : Nat) ^ (64 - 1) = 9223372036854775808 := by decide
      omega
    show (if 2 ^ (64 - 1) ≤ m.natAbs then _ else _) = _
    rw [if_neg h63]
    congr 1
    omega
structure SynE (w : World) (a : Addr) : Prop where
  lt : 3 < w.heap.size
  cell : w.cell? ⟨3, 0, none⟩ = some (.iface 205 (.pointer (some a)))
structure RngE (w : World) (a : Addr) : Prop where
  lt : 4 < w.heap.size
  cell : w.cell? ⟨4, 0, none⟩ = some (.iface 205 (.pointer (some a)))
structure NumErrs (w : World) (a b : Addr) : Prop where
  lt1 : 3 < w.heap.size
  cell1 : w.cell? ⟨3, 0, none⟩ = some (.iface 205 (.pointer (some a)))
  lt2 : 4 < w.heap.size
  cell2 : w.cell? ⟨4, 0, none⟩ = some (.iface 205 (.pointer (some b)))
theorem NumErrs.below {w w' : World} {a b : Addr} (h : NumErrs w a b) (hb : Below w.heap.size w w') : NumErrs w' a b :=
  ⟨Nat.lt_of_lt_of_le h.lt1 hb.size, (hb.cell (p := ⟨3, 0, none⟩) h.lt1).trans h.cell1, Nat.lt_of_lt_of_le h.lt2 hb.size, (hb.cell (p := ⟨4, 0, none⟩) h.lt2).trans h.cell2⟩
theorem parseInt_any (s : ByteArray) (hs : s.size ≤ 281474976710656) (w : World) (a b : Addr) (h : NumErrs w a b) :
    Calls Tryz.prog 125 #[.string s, .int .i64 10, .int .i64 64] w fun e w' => (∃ (m : Int) (v : Value), e = .returned (.tuple #[.int .i64 m, v]) ∧ ((v = .nilIface ∧ Lib.parseIntB 64 s.data.toList = .ok m) ∨ ((∃ T p, v = .iface T p) ∧ ∀ m, Lib.parseIntB 64 s.data.toList ≠ .ok m))) ∧ Below w.heap.size w w' := by
  cases hp : Lib.parseIntB 64 s.data.toList with
  | ok m =>
    refine (Tryz.strconv_ParseInt_10_at64_ok s (by omega) m hp w).mono ?_
    rintro e w' ⟨rfl, hw⟩
    refine ⟨⟨m, _, rfl, .inl ⟨rfl, rfl⟩⟩, ?_⟩
    rcases hw with rfl | ⟨t, rfl⟩
    · exact Below.refl _ _
    · exact Lib.bytesWorld_below _ _ _
  | «syntax» =>
    refine (Tryz.strconv_ParseInt_10_at64_syntax s hs hp _ w h.cell1 (.inr ⟨_, _, rfl⟩)).mono ?_
    rintro e w' ⟨N, rfl, _, _, hb⟩
    exact ⟨⟨_, _, rfl, .inr ⟨⟨_, _, rfl⟩, fun m e => by cases e⟩⟩, hb⟩
  | range =>
    refine (Tryz.strconv_ParseInt_10_at64_range s hs hp _ w h.cell2 (.inr ⟨_, _, rfl⟩)).mono ?_
    rintro e w' ⟨N, rfl, _, _, hb⟩
    exact ⟨⟨_, _, rfl, .inr ⟨⟨_, _, rfl⟩, fun m e => by cases e⟩⟩, hb⟩
theorem numOf_bad {l : List UInt8} (h : ∀ m, Lib.parseIntB 64 l ≠ .ok m) : numOf l = none := by
  cases ho : numOf l with
  | none => rfl
  | some m =>
    obtain ⟨h1, h2, h3⟩ := numOf_some ho
    exact absurd (h3 ▸ parse_numT m h1 h2) (h m)
theorem numText_empty {n : Int} (h : inB n (-999) 999 = false) : (numText n).data.toList = [] := by unfold numText; rw [h]; rfl
theorem numOf_ok {l : List UInt8} {m : Int} (h : Lib.parseIntB 64 l = .ok m) : numOf l = if (numText m).data.toList = l then some m else none := by
  cases hm : inB m (-999) 999
  · rw [numText_empty hm]
    have hne : ¬ ([] : List UInt8) = l := by
      rintro rfl
      cases h
    rw [if_neg hne]
    cases ho : numOf l with
    | none => rfl
    | some k =>
      obtain ⟨h1, h2, h3⟩ := numOf_some ho
      have h4 := parse_numT k h1 h2
      rw [h3, h] at h4
      injection h4 with h4
      subst h4
      simp [inB] at hm
      omega
  · have hb : -999 ≤ m ∧ m ≤ 999 := by simpa [inB] using hm
    have e : numText m = numT m := by unfold numText; rw [hm]; rfl
    rw [e]
    by_cases hl : (numT m).data.toList = l
    · rw [if_pos hl, ← hl]
      exact numOf_text m hb.1 hb.2
    · rw [if_neg hl]
      cases ho : numOf l with
      | none => rfl
      | some k =>
        obtain ⟨h1, h2, h3⟩ := numOf_some ho
        have h4 := parse_numT k h1 h2
        rw [h3, h] at h4
        injection h4 with h4
        subst h4
        exact absurd h3 hl
set_option maxRecDepth 100000 in
set_option maxHeartbeats 1600000 in
theorem implNumberOf_any (s : ByteArray) (hs : s.size ≤ 281474976710656) (w : World) (a b : Addr) (hE : NumErrs w a b) (hT : Pows w) :
    Calls Tryz.prog 104 #[.string s] w (Res2 w (numOfCode s.data.toList) (numOfVal s.data.toList)) := by
  have KP := Lib.hid (fun W h => parseInt_any s hs W a b h)
  have KN := Lib.hid (fun (m : Int) W (h : Pows W) => implNumberText_any m W h)
  have HE := Lib.hid (fun o => hE.below (below1 w o))
  have HE0 := Lib.hid hE
  have HT := Lib.hid hT
  have hcd : ∀ m, Lib.parseIntB 64 s.data.toList = .ok m → numOfCode s.data.toList = (if (numText m).toList == s.toList then 0 else 5) ∧ numOfVal s.data.toList = (if (numText m).toList == s.toList then m else 0) := by
    intro m hm
    have ho := numOf_ok hm
    unfold numOfCode numOfVal
    rw [ho, ByteArray.toList_eq, ByteArray.toList_eq]
    by_cases hx : (numText m).data.toList = s.data.toList
    · have hb : ((numText m).data.toList == s.data.toList) = true := beq_iff_eq.2 hx
      rw [if_pos hx, hb]
      exact ⟨rfl, rfl⟩
    · have hb : ((numText m).data.toList == s.data.toList) = false := beq_eq_false_iff_ne.2 hx
      rw [if_neg hx, hb]
      exact ⟨rfl, rfl⟩
  have hbad : (∀ m, Lib.parseIntB 64 s.data.toList ≠ .ok m) → numOfCode s.data.toList = 5 ∧ numOfVal s.data.toList = 0 := by
    intro h
    have ho := numOf_bad h
    unfold numOfCode numOfVal
    rw [ho]
    exact ⟨rfl, rfl⟩
  have HC := Lib.hid hcd
  have HBD := Lib.hid hbad
  generalize hl : numOfCode s.data.toList = cd at HC HBD ⊢
  generalize hv : numOfVal s.data.toList = vx at HC HBD ⊢
  clear hl hv hcd hbad hE hT hs
  unfold TxtRes at KN
  unfold Res2
  go_enter Tryz.func104, Tryz.ntmps104
  go_wp2_with fail
  refine (KP.out _ (HE.out _)).mono ?_
  rintro e w1 ⟨⟨m, v, rfl, hmv⟩, hb1⟩
  have HT1 := Lib.hid (HT.out.below (below_then (below1 w _) hb1))
  have B1 := Lib.hid hb1
  rcases hmv with ⟨rfl, hm⟩ | ⟨⟨T, p, rfl⟩, hm⟩
  · have E := HC.out m hm
    have KM := Lib.hid (fun W => KN.out m W)
    clear hm hb1 KN HC HBD KP
    generalize numText m = tx at E KM
    generalize numCode m = nc at KM
    have E1 := Lib.hid E
    have hfl := fun W => field_text nc tx W
    clear E
    go_wp2_with fail
    refine (KM.out _ HT1.out).mono ?_
    rintro e w2 ⟨rfl, hb2⟩
    have hb := below_then B1.out hb2
    obtain ⟨hc, hf⟩ := bcell hb
    have hz := hb.size
    simp at hz
    have HB := Lib.hid hb
    clear hb2 hb
    obtain ⟨e1, e2⟩ := E1.out
    cases hq : tx.toList == s.toList
    · rw [hq] at e1 e2
      have E := Lib.hid (And.intro e1 e2)
      clear e1 e2 E1
      go_wp2
      exact bodyPost_ret (v := .agg #[.int .i64 5, .int .i64 0]) (by simp [results, Tryz.results104, go_sem, hc]) rfl ⟨by rw [E.out.1, E.out.2]; rfl, (((below1 w _).trans (HB.out.mono (by simp))).setCell (by simp) _).setCell (by simp) _⟩
    · rw [hq] at e1 e2
      have E := Lib.hid (And.intro e1 e2)
      clear e1 e2
      go_wp2
      exact bodyPost_ret (v := .agg #[.int .i64 0, .int .i64 m]) (by simp [results, Tryz.results104, go_sem, hc]) rfl ⟨by rw [E.out.1, E.out.2]; rfl, (((below1 w _).trans (HB.out.mono (by simp))).setCell (by simp) _).setCell (by simp) _⟩
  · have E := Lib.hid (HBD.out hm)
    obtain ⟨hc, hf⟩ := bcell hb1
    have hz := hb1.size
    simp at hz
    clear hm hb1
    go_wp2
    exact bodyPost_ret (v := .agg #[.int .i64 5, .int .i64 0]) (by simp [results, Tryz.results104, go_sem, hc]) rfl ⟨by rw [E.out.1, E.out.2], (((below1 w _).trans (B1.out.mono (by simp))).setCell (by simp) _).setCell (by simp) _⟩
end Go.Proofs.YtjkmgpomcnplnaaGreatDoor
namespace Go.Proofs.YtjkmgpomcnplnaaGreatDoor
open Go.ChangeShapes Go.WideShapes Go.ChangeAt Go.RowKit
set_option linter.unusedVariables false
def prioRead (p : Pr) (t : ByteArray) : Option Pr := match numOf t.toList with | some m => some { p with prio := m } | none => none
theorem prioRead_is (p : Pr) (t : ByteArray) : (numOfCode t.data.toList = 0 → prioRead p t = some { p with prio := numOfVal t.data.toList }) ∧ (numOfCode t.data.toList ≠ 0 → prioRead p t = none) := by
  unfold prioRead numOfCode numOfVal
  rw [ByteArray.toList_eq]
  cases numOf t.data.toList with
  | some m => simp
  | none => simp
set_option maxHeartbeats 800000 in
theorem readPriority_any (pb : Nat) (p : Pr) (a : Option Addr) (n c : Nat) (t : ByteArray) (ea eb : Addr) (w0 w : World) (ht : t.size ≤ 281474976710656) (hE : NumErrs w ea eb) (hT : Pows w) (h : PrMut w0 w pb p a n c) :
    Calls Tryz.prog 74 #[.pointer (some ⟨pb, 0, none⟩), .string t] w (PartRes w0 w pb a n c (prioRead p t)) := by
  have H := Lib.hid h
  have K := Lib.hid (implNumberOf_any t ht w ea eb hE hT)
  have HR := Lib.hid (prioRead_is p t)
  clear h hE hT
  generalize numOfCode t.data.toList = cd at K HR
  generalize numOfVal t.data.toList = vx at K HR
  generalize prioRead p t = r at HR ⊢
  go_enter Tryz.func74, Tryz.ntmps74
  go_wp2_with fail
  refine K.out.mono ?_
  rintro e w1 ⟨rfl, hb⟩
  have hq := (H.out.keep hb).keep (below1 w1 (.cells #[.int .i64 cd, .int .i64 vx] 129))
  have z := hq.is.c5
  have y := hq.fz 5
  have HQ := Lib.hid hq
  have HB := Lib.hid (below_then hb (below1 w1 (.cells #[.int .i64 cd, .int .i64 vx] 129)))
  have hne : pb ≠ w1.heap.size := by have := (H.out.keep hb).is.lt; omega
  have hne2 : w1.heap.size ≠ pb := hne.symm
  clear hq H K hb
  go_wp2
  go_ret
  refine ⟨decide (cd = 0), _, rfl, HQ.out.setPrio vx, (Only.below HB.out).trans (Only.set (P := fun i => i = pb) _ ⟨pb, 5, none⟩ _ rfl), fun e => ?_, fun e => ?_⟩
  · exact HR.out.1 (of_decide_eq_true e)
  · exact HR.out.2 (of_decide_eq_false e)
open Classical in
noncomputable def partG (t : ByteArray) : Nat :=
  if t = showNm then 72 else if t = statusNm then 73 else 74
theorem show_status : showNm ≠ statusNm := by decide
theorem show_prio : showNm ≠ prioNm := by decide
theorem status_prio : statusNm ≠ prioNm := by decide
theorem partG_show : partG showNm = 72 := by unfold partG; rw [if_pos rfl]
theorem partG_status : partG statusNm = 73 := by unfold partG; rw [if_neg show_status.symm, if_pos rfl]
theorem partG_prio : partG prioNm = 74 := by unfold partG; rw [if_neg show_prio.symm, if_neg status_prio.symm]
theorem partG_cases {t : ByteArray} (h : t ∈ partTs) : t = showNm ∨ t = statusNm ∨ t = prioNm := by
  unfold partTs at h
  simpa using h
theorem partG_enters {t : ByteArray} (h : t ∈ partTs) (args : Array Value) (W : World) : (Sem.run Tryz.prog (callFunc (partG t) args) W) = .ok (.enter (partG t) args) W := by
  rcases partG_cases h with rfl | rfl | rfl
  · rw [partG_show]; kernel_rfl
  · rw [partG_status]; kernel_rfl
  · rw [partG_prio]; kernel_rfl
def partOne (nm t : ByteArray) (p : Pr) : Option Pr :=
  if nm.toList = showNm.toList then (if hasIx showWs t < 1 then none else some { p with shown := hasIx showWs t })
  else if nm.toList = statusNm.toList then some { p with status := t }
  else if nm.toList = prioNm.toList then (match numOf t.toList with | some n => some { p with prio := n } | none => none)
  else none
theorem partP_none {l : List It} {i : Nat} {p : Pr} (h : textL l i = none) : partP l i p = none := by
  unfold partP
  rw [h]
theorem partP_attrs {l : List It} {i : Nat} {p : Pr} (h : (l.getD i dIt).attrs.length ≠ 0) : partP l i p = none := by
  unfold partP
  cases textL l i with
  | none => rfl
  | some t => dsimp only; rw [if_pos h]
theorem partP_some {l : List It} {i : Nat} {p : Pr} {t : ByteArray} (h : textL l i = some t) (h2 : ¬ (l.getD i dIt).attrs.length ≠ 0) : partP l i p = partOne (l.getD i dIt).name t p := by
  unfold partP partOne
  rw [h]
  dsimp only
  rw [if_neg h2]
  rfl
theorem partG_reads {nm t : ByteArray} (hx : nm ∈ partTs) (ht : t.size ≤ 281474976710656) (ea eb : Addr) (pb : Nat) (p : Pr) (a : Option Addr) (n c : Nat) (w0 w : World) (hE : NumErrs w ea eb) (hT : Pows w) (h : PrMut w0 w pb p a n c) :
    Calls Tryz.prog (partG nm) #[.pointer (some ⟨pb, 0, none⟩), .string t] w (PartRes w0 w pb a n c (partOne nm t p)) := by
  unfold partOne
  rcases partG_cases hx with e | e | e
  · rw [e, partG_show, if_pos rfl]
    exact readShow_any pb p a n c t w0 w h
  · rw [e, partG_status, if_neg (fun e => show_status (text_same e).symm), if_pos rfl]
    exact readStatus_any pb p a n c t w0 w h
  · rw [e, partG_prio, if_neg (fun e => show_prio (text_same e).symm), if_neg (fun e => status_prio (text_same e).symm), if_pos rfl]
    exact readPriority_any pb p a n c t ea eb w0 w ht hE hT h
theorem MayAt.only {P : Nat → Prop} {w0 w w' : World} {pb m : Nat} {D : DataW Unit} {ts : List ByteArray} {g : ByteArray → Nat} (h : MayAt w0 w pb m D ts g) (ho : Only P w w') (hn : ¬ P m) : MayAt w0 w' pb m D ts g :=
  ⟨map_only h.own ho hn, h.may, h.ge, h.ne⟩
open Classical in
theorem meet_part {nm t : ByteArray} (hx : nm ∈ partTs) (hs : nm.size ≤ maxLen) (ht : t.size ≤ 281474976710656) (ea eb : Addr) (pb m : Nat) (p : Pr) (a : Option Addr) (n c : Nat) (D : DataW Unit) (ts : List ByteArray) (w0 w : World) (hE : NumErrs w0 ea eb) (hT : Pows w0) (h : PrMut w0 w pb p a n c) (hm : MayAt w0 w pb m D ts partG) (hin : nm ∈ ts) :
    Calls Tryz.prog 71 #[.map (some m), .string nm, .string t] w fun e w2 => ∃ b, e = .returned (.bool b) ∧ MetRes w0 pb m a n c ts nm partG (partOne nm t p) b w2 ∧ Only (fun i => i = pb ∨ i = m) w w2 := by
  refine meet_yes pb m 3 D ts partG nm t w hs hm.own hm.may hin (fun b w2 => MetRes w0 pb m a n c ts nm partG (partOne nm t p) b w2 ∧ Only (fun i => i = pb ∨ i = m) w w2) (fun args W => partG_enters hx args W) fun w' hown hturn => ?_
  have ho := Only.grown hturn.grown
  have hp := h.only ho (fun e => hm.ne (Option.some.inj e).symm) (fun i hi => by have := hm.ge; have := Option.some.inj hi; omega)
  refine (partG_reads hx ht ea eb pb p a n c w0 w' (hE.below hp.below) (hT.below hp.below) hp).mono ?_
  rintro e w2 ⟨bb, q, rfl, hq, ho2, h1, h2⟩
  have hd := hm.may.del nm
  have e : (ts.filter fun t => decide (t ≠ nm)) = leftT ts [nm] := by
    unfold leftT
    congr 1
    funext t
    simp
  rw [e] at hd
  exact ⟨bb, rfl, ⟨q, _, hq, ⟨map_only hown ho2 hm.ne, hd, hm.ge, hm.ne⟩, h1, h2⟩, (ho.mono (fun i hi => .inr (Option.some.inj hi))).trans (ho2.mono (fun i hi => .inl hi))⟩
end Go.Proofs.YtjkmgpomcnplnaaGreatDoor
