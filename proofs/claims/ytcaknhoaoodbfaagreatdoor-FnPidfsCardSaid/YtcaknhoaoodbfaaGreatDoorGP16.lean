/- spec.l8Tree. -/
import Derived.Test.YtcaknhoaoodbfaaGreatDoorGP14
import Derived.Test.YtcaknhoaoodbfaaGreatDoorGP1
import Derived.Test.YtcaknhoaoodbfaaGreatDoorGP15
import Derived.Deep.DeepCutAuto
namespace Go.Proofs.YtcaknhoaoodbfaaGreatDoor
open Go.ChangeShapes Go.WideShapes Go.ChangeAt Go.RowKit
set_option linter.unusedVariables false
structure PrOff (w : World) (b o : Nat) (p : Pr) : Prop where
  lt : b < w.heap.size
  c0 : w.cell? ⟨b, o, none⟩ = some (.int .i64 p.kind)
  c1 : w.cell? ⟨b, o + 1, none⟩ = some (.string p.sender)
  c3 : w.cell? ⟨b, o + 3, none⟩ = some (.int .i64 p.shown)
  c4 : w.cell? ⟨b, o + 4, none⟩ = some (.string p.status)
  c5 : w.cell? ⟨b, o + 5, none⟩ = some (.int .i64 p.prio)
theorem PrOff.kept {B : Nat} {w w' : World} {b o : Nat} {p : Pr} (h : PrOff w b o p) (hb : Below B w w') (hB : b < B) : PrOff w' b o p :=
  ⟨Nat.lt_of_lt_of_le h.lt hb.size, (hb.cell (by exact hB)).trans h.c0, (hb.cell (by exact hB)).trans h.c1, (hb.cell (by exact hB)).trans h.c3, (hb.cell (by exact hB)).trans h.c4, (hb.cell (by exact hB)).trans h.c5⟩
def GrewRes (w : World) (l : List It) (en : Ending) (w' : World) : Prop :=
  ∃ (a : Option Addr) (n c : Nat) (A : Nat → Option Addr) (N C : Nat → Nat), en = .returned (.slice a n c) ∧ GrowIts w' w.heap.size (.slice a n c) n l A N C ∧ Below w.heap.size w w'
theorem thouVal_in (p : Int) : 0 ≤ thouVal p ∧ thouVal p ≤ 1000 := by
  unfold thouVal
  cases h : inB p 0 127
  · exact ⟨Int.le_refl 0, by show (0 : Int) ≤ 1000; decide⟩
  · have hb : 0 ≤ p ∧ p ≤ 127 := by simpa [inB] using h
    simp only [if_true]
    omega
theorem shareText_thou (p : Int) : shareText (thouVal p) = shareT (thouVal p).toNat := by
  have h := thouVal_in p
  have hi : inB (thouVal p) 0 1000 = true := by unfold inB; exact decide_eq_true h
  unfold shareText
  rw [hi]
  rfl
theorem shareT_size (n : Nat) (hn : n ≤ 1000) : (shareT n).size ≤ 100 := by
  have s1 := digT_size19 (n := n / 1000) (by omega)
  have s2 := digT_size19 (n := 1000 + n % 1000) (by omega)
  unfold shareT behindT
  rw [ByteArray.size_append, ByteArray.size_append, ByteArray.size_extract]
  have : (⟨#[46]⟩ : ByteArray).size = 1 := rfl
  omega
theorem GrowIts.step {w W1 W0 w2 : World} {v : Value} {n : Nat} {l : List It} {A : Nat → Option Addr} {N C : Nat → Nat} (hB : Below w.heap.size w W1) (h : GrowIts W1 w.heap.size v n l A N C) (hb : Below W1.heap.size W1 W0) (hg : W0.grownBy w2 v.ownBlock) : Below w.heap.size w w2 :=
  (hB.trans (hb.mono hB.size)).grown hg (Nat.le_trans hB.size hb.size) (fun k hk => (h.row.lt k hk).1)
theorem field_ival (c v : Int) (W : World) : (Instr.field 163 (.agg #[.int .i64 c, .int .i64 v]) 1).run Tryz.prog W = .ok (.int .i64 v) W := by kernel_rfl
theorem basicW_full (k : Int) : (basicW k).toList.isEmpty = false := by
  unfold basicW
  split <;> (rw [ByteArray.toList_eq]; rfl)
theorem leafL_len (d : Int) (sp nm t : ByteArray) : (leafL d sp nm t).length ≤ 2 := by unfold leafL; split <;> simp
theorem head_made (f : ByteArray) (k : Int) : (([rootP8 f] ++ [elemI 1 pidfSp tupleNm [⟨idNm, tT⟩]]) ++ [elemI 2 pidfSp stNm []]) ++ leafL 3 pidfSp basicNm (basicW k) = headP8 f k := by
  unfold leafL
  rw [if_neg (by rw [basicW_full]; simp)]
  rfl
theorem note_made (u : ByteArray) (h : u.toList.isEmpty = false) : leafL 2 pidfSp noteNm u = noteP8 u := by
  unfold leafL noteP8
  rw [if_neg (by rw [h]; simp), if_neg (by rw [h]; simp)]
  rfl
set_option maxRecDepth 100000 in
set_option maxHeartbeats 3200000 in
theorem l8Tree_any (b o : Nat) (q : Pr) (w : World) (hs : q.sender.size ≤ 1000) (ho : o ≤ 1000) (hP : PrOff w b o q) :
    Calls Tryz.prog 87 #[.pointer (some ⟨b, o, none⟩)] w (GrewRes w (pidfL q)) := by
  obtain ⟨i0, hi, hz0, hi1, hz2⟩ := info_parts itemInfo
  have HP := Lib.hid hP
  have hbw := hP.lt
  have htv := thouVal_in q.prio
  have KT := Lib.hid (fun W => specThousandthsOf_any q.prio W)
  have KS := Lib.hid (fun W => l8Share_any (thouVal q.prio).toNat (by omega) W)
  have hsx := shareT_size (thouVal q.prio).toNat (by omega)
  rw [show (((thouVal q.prio).toNat : Nat) : Int) = thouVal q.prio by omega, ← shareText_thou] at KS
  rw [← shareText_thou] at hsx
  have HC : Hid (∀ x, (if q.prio = 0 then [] else [elemI 2 pidfSp contNm [⟨prioKey, shareText (thouVal q.prio)⟩], textI 3 (xmppP ++ q.sender)]) = x → contP8 q.sender q.prio = x) := Lib.hid fun x e => e
  have HX : Hid (∀ x, ((headP8 q.sender q.kind ++ actsP8 q.shown) ++ contP8 q.sender q.prio) ++ noteP8 q.status = x → pidfL q = x) := Lib.hid fun x e => e
  have HH := Lib.hid (head_made q.sender q.kind)
  have hbe := basicW_full q.kind
  have HBK : Hid ((q.kind = 1 ∧ basicW q.kind = ⟨#[99, 108, 111, 115, 101, 100]⟩) ∨ ((q.kind == 1) = false ∧ basicW q.kind = ⟨#[111, 112, 101, 110]⟩)) := Lib.hid (by
    unfold basicW
    by_cases h : q.kind = 1
    · exact .inl ⟨h, by rw [if_pos h]; rfl⟩
    · exact .inr ⟨by rw [beq_eq_false_iff_ne]; exact h, by rw [if_neg h]; rfl⟩)
  have HAC : Hid ((q.shown = 0 ∧ actsP8 q.shown = []) ∨ ((q.shown != 0) = true ∧ q.shown = 3 ∧ actsP8 q.shown = [⟨2, ⟨#[]⟩, ⟨#[117, 114, 110, 58, 105, 101, 116, 102, 58, 112, 97, 114, 97, 109, 115, 58, 120, 109, 108, 58, 110, 115, 58, 112, 105, 100, 102, 58, 114, 112, 105, 100]⟩, ⟨#[97, 99, 116, 105, 118, 105, 116, 105, 101, 115]⟩, []⟩, ⟨3, ⟨#[]⟩, ⟨#[117, 114, 110, 58, 105, 101, 116, 102, 58, 112, 97, 114, 97, 109, 115, 58, 120, 109, 108, 58, 110, 115, 58, 112, 105, 100, 102, 58, 114, 112, 105, 100]⟩, ⟨#[98, 117, 115, 121]⟩, []⟩]) ∨ ((q.shown != 0) = true ∧ (q.shown == 3) = false ∧ actsP8 q.shown = [⟨2, ⟨#[]⟩, ⟨#[117, 114, 110, 58, 105, 101, 116, 102, 58, 112, 97, 114, 97, 109, 115, 58, 120, 109, 108, 58, 110, 115, 58, 112, 105, 100, 102, 58, 114, 112, 105, 100]⟩, ⟨#[97, 99, 116, 105, 118, 105, 116, 105, 101, 115]⟩, []⟩, ⟨3, ⟨#[]⟩, ⟨#[117, 114, 110, 58, 105, 101, 116, 102, 58, 112, 97, 114, 97, 109, 115, 58, 120, 109, 108, 58, 110, 115, 58, 112, 105, 100, 102, 58, 114, 112, 105, 100]⟩, ⟨#[97, 119, 97, 121]⟩, []⟩])) := Lib.hid (by
    unfold actsP8 actW
    by_cases h : q.shown = 0
    · exact .inl ⟨h, by rw [if_pos h]⟩
    · by_cases h3 : q.shown = 3
      · exact .inr (.inl ⟨by rw [bne_iff_ne]; exact h, h3, by rw [if_neg h, if_pos h3]; rfl⟩)
      · exact .inr (.inr ⟨by rw [bne_iff_ne]; exact h, by rw [beq_eq_false_iff_ne]; exact h3, by rw [if_neg h, if_neg h3]; rfl⟩))
  unfold GrewRes
  unfold Res2 at KT
  unfold TextB at KS
  generalize pidfL q = TL at HX ⊢
  clear hP htv
  obtain ⟨qk, qf, qt, qs, qu, qp, qm⟩ := q
  dsimp only at hs KT KS hsx HX HH hbe HBK HAC HC
  generalize thouVal qp = tv at KT KS hsx HC
  generalize shareText tv = sx at KS hsx HC
  generalize thouCode qp = tc at KT
  generalize headP8 qf qk = HL at HX HH
  generalize actsP8 qs = AL at HX HAC
  generalize contP8 qf qp = CL at HX HC
  generalize basicW qk = bw at HH hbe HBK
  have d1 := HP.out.c1
  dsimp only at d1
  have hft := fun W => field_ival tc tv W
  go_enter Tryz.func87, Tryz.ntmps87
  go_upto_region 2 with fail
  have hg1 := grow_root2 (B := w.heap.size) (w := w.alloc (.cells #[.string ⟨#[101, 110, 116, 105, 116, 121]⟩, .string (⟨#[112, 114, 101, 115, 58]⟩ ++ qf)] 65)) ⟨0, ⟨#[]⟩, ⟨#[117, 114, 110, 58, 105, 101, 116, 102, 58, 112, 97, 114, 97, 109, 115, 58, 120, 109, 108, 58, 110, 115, 58, 112, 105, 100, 102]⟩, ⟨#[112, 114, 101, 115, 101, 110, 99, 101]⟩, [⟨⟨#[101, 110, 116, 105, 116, 121]⟩, ⟨#[112, 114, 101, 115, 58]⟩ ++ qf⟩]⟩ (by simp) (lit_ats1 w w.heap.size (Nat.le_refl _) ⟨#[101, 110, 116, 105, 116, 121]⟩ (⟨#[112, 114, 101, 115, 58]⟩ ++ qf) (by decide) (by rw [ByteArray.size_append]; have : (⟨#[112, 114, 101, 115, 58]⟩ : ByteArray).size = 5 := rfl; omega)) (fun e => by cases e)
  dsimp only at hg1
  rw [show (w.alloc (.cells #[.string ⟨#[101, 110, 116, 105, 116, 121]⟩, .string (⟨#[112, 114, 101, 115, 58]⟩ ++ qf)] 65)).heap.size = w.heap.size + 1 by simp] at hg1
  have G1 := Lib.hid hg1
  have B1 := Lib.hid (below2 w (.cells #[.string ⟨#[101, 110, 116, 105, 116, 121]⟩, .string (⟨#[112, 114, 101, 115, 58]⟩ ++ qf)] 65) (.cells #[.int .i64 0, .string ⟨#[]⟩, .string ⟨#[117, 114, 110, 58, 105, 101, 116, 102, 58, 112, 97, 114, 97, 109, 115, 58, 120, 109, 108, 58, 110, 115, 58, 112, 105, 100, 102]⟩, .string ⟨#[112, 114, 101, 115, 101, 110, 99, 101]⟩, .slice (some ⟨w.heap.size, 0, none⟩) 1 1] 67))
  have hz1 : w.heap.size ≤ ((w.alloc (.cells #[.string ⟨#[101, 110, 116, 105, 116, 121]⟩, .string (⟨#[112, 114, 101, 115, 58]⟩ ++ qf)] 65)).alloc (.cells #[.int .i64 0, .string ⟨#[]⟩, .string ⟨#[117, 114, 110, 58, 105, 101, 116, 102, 58, 112, 97, 114, 97, 109, 115, 58, 120, 109, 108, 58, 110, 115, 58, 112, 105, 100, 102]⟩, .string ⟨#[112, 114, 101, 115, 101, 110, 99, 101]⟩, .slice (some ⟨w.heap.size, 0, none⟩) 1 1] 67)).heap.size := by simp; omega
  clear hg1 d1
  generalize ((w.alloc (.cells #[.string ⟨#[101, 110, 116, 105, 116, 121]⟩, .string (⟨#[112, 114, 101, 115, 58]⟩ ++ qf)] 65)).alloc (.cells #[.int .i64 0, .string ⟨#[]⟩, .string ⟨#[117, 114, 110, 58, 105, 101, 116, 102, 58, 112, 97, 114, 97, 109, 115, 58, 120, 109, 108, 58, 110, 115, 58, 112, 105, 100, 102]⟩, .string ⟨#[112, 114, 101, 115, 101, 110, 99, 101]⟩, .slice (some ⟨w.heap.size, 0, none⟩) 1 1] 67)) = W1 at G1 B1 hz1 ⊢
  go_wp2_with (at_builtin; refine wpList_append_own_at _ rfl _ _ 24 rfl w.heap.size 67 i0 (.agg #[.int .i64 0, .string ByteArray.empty, .string ByteArray.empty, .string ByteArray.empty, .slice none 0 0]) 5 80 Tryz.underlying24 hi hz0 hi1 hz2 rfl (by decide) _ 1 _ rfl (((G1.out.row).alloc _).alloc _) ⟨W1.heap.size + 1, 0, none⟩ 1 1 [.int .i64 1, .string ⟨#[]⟩, .string ⟨#[117, 114, 110, 58, 105, 101, 116, 102, 58, 112, 97, 114, 97, 109, 115, 58, 120, 109, 108, 58, 110, 115, 58, 112, 105, 100, 102]⟩, .string ⟨#[116, 117, 112, 108, 101]⟩, .slice (some ⟨W1.heap.size, 0, none⟩) 1 1] rfl rfl (fun j u hj => by have := itemCells (W1.alloc (.cells #[.string ⟨#[105, 100]⟩, .string ⟨#[116]⟩] 65)) _ _ _ _ _ j u hj; simpa using this) (by intro v hv; simp at hv; rcases hv with rfl | rfl | rfl | rfl | rfl <;> rfl) (by unfold maxLen; omega) (by omega) (by simp; omega) ?_)
  intro v' w2 hown hgr _ hat
  obtain ⟨a2, c2, rfl⟩ := owns_slice hown
  have G2 := Lib.hid (show GrowIts w2 w.heap.size (.slice a2 2 c2) 2 _ _ _ _ from G1.out.snoc (x := ⟨1, ⟨#[]⟩, ⟨#[117, 114, 110, 58, 105, 101, 116, 102, 58, 112, 97, 114, 97, 109, 115, 58, 120, 109, 108, 58, 110, 115, 58, 112, 105, 100, 102]⟩, ⟨#[116, 117, 112, 108, 101]⟩, [⟨⟨#[105, 100]⟩, ⟨#[116]⟩⟩]⟩) (below2 W1 (.cells #[.string ⟨#[105, 100]⟩, .string ⟨#[116]⟩] 65) (.cells #[.int .i64 1, .string ⟨#[]⟩, .string ⟨#[117, 114, 110, 58, 105, 101, 116, 102, 58, 112, 97, 114, 97, 109, 115, 58, 120, 109, 108, 58, 110, 115, 58, 112, 105, 100, 102]⟩, .string ⟨#[116, 117, 112, 108, 101]⟩, .slice (some ⟨W1.heap.size, 0, none⟩) 1 1] 67)) ((lit_ats1 W1 W1.heap.size (Nat.le_refl _) ⟨#[105, 100]⟩ ⟨#[116]⟩ (by decide) (by decide)).later (below1 _ _) (by simp)) (fun e => by cases e) hz1 hown hgr (hat.imp id fun e => ⟨W1.heap.size + 1 + 1, by simpa using e, by simp⟩))
  have B2 := Lib.hid (GrowIts.step B1.out G1.out (below2 W1 (.cells #[.string ⟨#[105, 100]⟩, .string ⟨#[116]⟩] 65) (.cells #[.int .i64 1, .string ⟨#[]⟩, .string ⟨#[117, 114, 110, 58, 105, 101, 116, 102, 58, 112, 97, 114, 97, 109, 115, 58, 120, 109, 108, 58, 110, 115, 58, 112, 105, 100, 102]⟩, .string ⟨#[116, 117, 112, 108, 101]⟩, .slice (some ⟨W1.heap.size, 0, none⟩) 1 1] 67)) hgr)
  have hz2' : w.heap.size ≤ w2.heap.size := B2.out.size
  clear hown hgr hat G1 B1 hz1
  go_wp2_with (at_builtin; refine wpList_append_own_at _ rfl _ _ 24 rfl w.heap.size 67 i0 (.agg #[.int .i64 0, .string ByteArray.empty, .string ByteArray.empty, .string ByteArray.empty, .slice none 0 0]) 5 80 Tryz.underlying24 hi hz0 hi1 hz2 rfl (by decide) _ 2 _ rfl ((G2.out.row).alloc _) ⟨w2.heap.size, 0, none⟩ 1 1 [.int .i64 2, .string ⟨#[]⟩, .string ⟨#[117, 114, 110, 58, 105, 101, 116, 102, 58, 112, 97, 114, 97, 109, 115, 58, 120, 109, 108, 58, 110, 115, 58, 112, 105, 100, 102]⟩, .string ⟨#[115, 116, 97, 116, 117, 115]⟩, .slice none 0 0] rfl rfl (fun j u hj => itemCells w2 _ _ _ _ _ j u hj) (by intro v hv; simp at hv; rcases hv with rfl | rfl | rfl | rfl | rfl <;> rfl) (by unfold maxLen; omega) (by omega) (by simp; omega) ?_)
  intro v' w3 hown hgr _ hat
  obtain ⟨a3, c3, rfl⟩ := owns_slice hown
  have G3 := Lib.hid (show GrowIts w3 w.heap.size (.slice a3 3 c3) 3 _ _ _ _ from G2.out.snoc (x := ⟨2, ⟨#[]⟩, ⟨#[117, 114, 110, 58, 105, 101, 116, 102, 58, 112, 97, 114, 97, 109, 115, 58, 120, 109, 108, 58, 110, 115, 58, 112, 105, 100, 102]⟩, ⟨#[115, 116, 97, 116, 117, 115]⟩, []⟩) (below1 w2 (.cells #[.int .i64 2, .string ⟨#[]⟩, .string ⟨#[117, 114, 110, 58, 105, 101, 116, 102, 58, 112, 97, 114, 97, 109, 115, 58, 120, 109, 108, 58, 110, 115, 58, 112, 105, 100, 102]⟩, .string ⟨#[115, 116, 97, 116, 117, 115]⟩, .slice none 0 0] 67)) (bareAts _ _ _) (fun _ => rfl) hz2' hown hgr (hat.imp id fun e => ⟨w2.heap.size + 1, by simpa using e, by simp⟩))
  have B3 := Lib.hid (GrowIts.step B2.out G2.out (below1 w2 (.cells #[.int .i64 2, .string ⟨#[]⟩, .string ⟨#[117, 114, 110, 58, 105, 101, 116, 102, 58, 112, 97, 114, 97, 109, 115, 58, 120, 109, 108, 58, 110, 115, 58, 112, 105, 100, 102]⟩, .string ⟨#[115, 116, 97, 116, 117, 115]⟩, .slice none 0 0] 67)) hgr)
  have hz3 : w.heap.size ≤ w3.heap.size := B3.out.size
  have hb3 : b < w3.heap.size := by omega
  have d0 := (HP.out.kept B3.out hbw).c0
  dsimp only at d0
  clear hown hgr hat G2 B2 hz2'
  go_upto_if 30 with fail
  go_cut [4] (fun v wx => v = .string bw ∧ wx = w3)
  case first =>
    rcases HBK.out with ⟨rfl, e⟩ | ⟨q1, e⟩
    · have HE := Lib.hid e
      clear e
      go_wp2_with fail
      go_meet
      exact ⟨by rw [HE.out], rfl⟩
    · have HE := Lib.hid e
      clear e
      go_wp2_with fail
      go_meet
      exact ⟨by rw [HE.out], rfl⟩
  case rest =>
    obtain ⟨rfl, rfl⟩ := hcut
    go_wp2_with fail
    refine (l7Leaf_any w.heap.size _ 3 c3 _ _ _ _ 3 ⟨#[117, 114, 110, 58, 105, 101, 116, 102, 58, 112, 97, 114, 97, 109, 115, 58, 120, 109, 108, 58, 110, 115, 58, 112, 105, 100, 102]⟩ ⟨#[98, 97, 115, 105, 99]⟩ bw wc hz3 (by decide) (by omega) G3.out).mono ?_
    rintro e w4 ⟨a4, n4, c4, A4, N4, C4, rfl, hg4, hgr, _⟩
    have hn4 : n4 ≤ 5 := by
      have h := hg4.len
      have h2 := leafL_len 3 ⟨#[117, 114, 110, 58, 105, 101, 116, 102, 58, 112, 97, 114, 97, 109, 115, 58, 120, 109, 108, 58, 110, 115, 58, 112, 105, 100, 102]⟩ ⟨#[98, 97, 115, 105, 99]⟩ bw
      simp only [List.length_append, List.length_cons, List.length_nil] at h
      omega
    have G4 : Hid (GrowIts w4 w.heap.size (.slice a4 n4 c4) n4 HL A4 N4 C4) := Lib.hid (by rw [← HH.out]; exact hg4)
    have B4 := Lib.hid (GrowIts.step B3.out G3.out (Below.refl _ _) hgr)
    have hz4 : w.heap.size ≤ w4.heap.size := B4.out.size
    have hb4 : b < w4.heap.size := by omega
    have d3 := (HP.out.kept B4.out hbw).c3
    dsimp only at d3
    clear hg4 hgr G3 B3 hz3 hb3 d0 HH HBK
    go_upto_if 38 with fail
    go_cut [3] (fun v wx => ∃ (x : Option Addr) (m q : Nat) (A : Nat → Option Addr) (N C : Nat → Nat), v = .slice x m q ∧ GrowIts wx w.heap.size (.slice x m q) m (HL ++ AL) A N C ∧ Below w.heap.size w wx ∧ m ≤ 10)
    case first =>
      rcases HAC.out with ⟨rfl, e⟩ | ⟨q1, rfl, e⟩ | ⟨q1, q2, e⟩
      · have HE := Lib.hid e
        clear e
        go_wp2_with fail
        go_meet
        exact ⟨_, _, _, _, _, _, rfl, by rw [HE.out, List.append_nil]; exact G4.out, B4.out, by omega⟩
      · have HE := Lib.hid e
        clear e
        go_wp2_with (at_builtin; refine wpList_append_own_at _ rfl _ _ 24 rfl w.heap.size 67 i0 (.agg #[.int .i64 0, .string ByteArray.empty, .string ByteArray.empty, .string ByteArray.empty, .slice none 0 0]) 5 80 Tryz.underlying24 hi hz0 hi1 hz2 rfl (by decide) _ n4 _ rfl ((G4.out.row).alloc _) ⟨w4.heap.size, 0, none⟩ 2 2 [.int .i64 2, .string ⟨#[]⟩, .string ⟨#[117, 114, 110, 58, 105, 101, 116, 102, 58, 112, 97, 114, 97, 109, 115, 58, 120, 109, 108, 58, 110, 115, 58, 112, 105, 100, 102, 58, 114, 112, 105, 100]⟩, .string ⟨#[97, 99, 116, 105, 118, 105, 116, 105, 101, 115]⟩, .slice none 0 0, .int .i64 3, .string ⟨#[]⟩, .string ⟨#[117, 114, 110, 58, 105, 101, 116, 102, 58, 112, 97, 114, 97, 109, 115, 58, 120, 109, 108, 58, 110, 115, 58, 112, 105, 100, 102, 58, 114, 112, 105, 100]⟩, .string ⟨#[98, 117, 115, 121]⟩, .slice none 0 0] rfl rfl (fun j u hj => itemCells2 w4 _ _ _ _ _ _ _ _ _ _ j u hj) (by intro v hv; simp at hv; rcases hv with rfl | rfl | rfl | rfl | rfl | rfl | rfl | rfl | rfl | rfl <;> rfl) (by unfold maxLen; omega) (by omega) (by simp; omega) ?_)
        intro v' w5 hown hgr _ hat
        obtain ⟨a5, c5, rfl⟩ := owns_slice hown
        have G5 := Lib.hid (G4.out.two (x := ⟨2, ⟨#[]⟩, ⟨#[117, 114, 110, 58, 105, 101, 116, 102, 58, 112, 97, 114, 97, 109, 115, 58, 120, 109, 108, 58, 110, 115, 58, 112, 105, 100, 102, 58, 114, 112, 105, 100]⟩, ⟨#[97, 99, 116, 105, 118, 105, 116, 105, 101, 115]⟩, []⟩) (y := ⟨3, ⟨#[]⟩, ⟨#[117, 114, 110, 58, 105, 101, 116, 102, 58, 112, 97, 114, 97, 109, 115, 58, 120, 109, 108, 58, 110, 115, 58, 112, 105, 100, 102, 58, 114, 112, 105, 100]⟩, ⟨#[98, 117, 115, 121]⟩, []⟩) (below1 w4 (.cells #[.int .i64 2, .string ⟨#[]⟩, .string ⟨#[117, 114, 110, 58, 105, 101, 116, 102, 58, 112, 97, 114, 97, 109, 115, 58, 120, 109, 108, 58, 110, 115, 58, 112, 105, 100, 102, 58, 114, 112, 105, 100]⟩, .string ⟨#[97, 99, 116, 105, 118, 105, 116, 105, 101, 115]⟩, .slice none 0 0, .int .i64 3, .string ⟨#[]⟩, .string ⟨#[117, 114, 110, 58, 105, 101, 116, 102, 58, 112, 97, 114, 97, 109, 115, 58, 120, 109, 108, 58, 110, 115, 58, 112, 105, 100, 102, 58, 114, 112, 105, 100]⟩, .string ⟨#[98, 117, 115, 121]⟩, .slice none 0 0] 67)) rfl rfl hz4 hown hgr (hat.imp id fun e => ⟨w4.heap.size + 1, by simpa using e, by simp⟩))
        have B5 := Lib.hid (GrowIts.step B4.out G4.out (below1 w4 (.cells #[.int .i64 2, .string ⟨#[]⟩, .string ⟨#[117, 114, 110, 58, 105, 101, 116, 102, 58, 112, 97, 114, 97, 109, 115, 58, 120, 109, 108, 58, 110, 115, 58, 112, 105, 100, 102, 58, 114, 112, 105, 100]⟩, .string ⟨#[97, 99, 116, 105, 118, 105, 116, 105, 101, 115]⟩, .slice none 0 0, .int .i64 3, .string ⟨#[]⟩, .string ⟨#[117, 114, 110, 58, 105, 101, 116, 102, 58, 112, 97, 114, 97, 109, 115, 58, 120, 109, 108, 58, 110, 115, 58, 112, 105, 100, 102, 58, 114, 112, 105, 100]⟩, .string ⟨#[98, 117, 115, 121]⟩, .slice none 0 0] 67)) hgr)
        clear hown hgr hat
        go_wp2_with fail
        go_meet
        exact ⟨_, _, _, _, _, _, rfl, by rw [HE.out]; exact G5.out, B5.out, by omega⟩
      · have HE := Lib.hid e
        clear e
        go_wp2_with (at_builtin; refine wpList_append_own_at _ rfl _ _ 24 rfl w.heap.size 67 i0 (.agg #[.int .i64 0, .string ByteArray.empty, .string ByteArray.empty, .string ByteArray.empty, .slice none 0 0]) 5 80 Tryz.underlying24 hi hz0 hi1 hz2 rfl (by decide) _ n4 _ rfl ((G4.out.row).alloc _) ⟨w4.heap.size, 0, none⟩ 2 2 [.int .i64 2, .string ⟨#[]⟩, .string ⟨#[117, 114, 110, 58, 105, 101, 116, 102, 58, 112, 97, 114, 97, 109, 115, 58, 120, 109, 108, 58, 110, 115, 58, 112, 105, 100, 102, 58, 114, 112, 105, 100]⟩, .string ⟨#[97, 99, 116, 105, 118, 105, 116, 105, 101, 115]⟩, .slice none 0 0, .int .i64 3, .string ⟨#[]⟩, .string ⟨#[117, 114, 110, 58, 105, 101, 116, 102, 58, 112, 97, 114, 97, 109, 115, 58, 120, 109, 108, 58, 110, 115, 58, 112, 105, 100, 102, 58, 114, 112, 105, 100]⟩, .string ⟨#[97, 119, 97, 121]⟩, .slice none 0 0] rfl rfl (fun j u hj => itemCells2 w4 _ _ _ _ _ _ _ _ _ _ j u hj) (by intro v hv; simp at hv; rcases hv with rfl | rfl | rfl | rfl | rfl | rfl | rfl | rfl | rfl | rfl <;> rfl) (by unfold maxLen; omega) (by omega) (by simp; omega) ?_)
        intro v' w5 hown hgr _ hat
        obtain ⟨a5, c5, rfl⟩ := owns_slice hown
        have G5 := Lib.hid (G4.out.two (x := ⟨2, ⟨#[]⟩, ⟨#[117, 114, 110, 58, 105, 101, 116, 102, 58, 112, 97, 114, 97, 109, 115, 58, 120, 109, 108, 58, 110, 115, 58, 112, 105, 100, 102, 58, 114, 112, 105, 100]⟩, ⟨#[97, 99, 116, 105, 118, 105, 116, 105, 101, 115]⟩, []⟩) (y := ⟨3, ⟨#[]⟩, ⟨#[117, 114, 110, 58, 105, 101, 116, 102, 58, 112, 97, 114, 97, 109, 115, 58, 120, 109, 108, 58, 110, 115, 58, 112, 105, 100, 102, 58, 114, 112, 105, 100]⟩, ⟨#[97, 119, 97, 121]⟩, []⟩) (below1 w4 (.cells #[.int .i64 2, .string ⟨#[]⟩, .string ⟨#[117, 114, 110, 58, 105, 101, 116, 102, 58, 112, 97, 114, 97, 109, 115, 58, 120, 109, 108, 58, 110, 115, 58, 112, 105, 100, 102, 58, 114, 112, 105, 100]⟩, .string ⟨#[97, 99, 116, 105, 118, 105, 116, 105, 101, 115]⟩, .slice none 0 0, .int .i64 3, .string ⟨#[]⟩, .string ⟨#[117, 114, 110, 58, 105, 101, 116, 102, 58, 112, 97, 114, 97, 109, 115, 58, 120, 109, 108, 58, 110, 115, 58, 112, 105, 100, 102, 58, 114, 112, 105, 100]⟩, .string ⟨#[97, 119, 97, 121]⟩, .slice none 0 0] 67)) rfl rfl hz4 hown hgr (hat.imp id fun e => ⟨w4.heap.size + 1, by simpa using e, by simp⟩))
        have B5 := Lib.hid (GrowIts.step B4.out G4.out (below1 w4 (.cells #[.int .i64 2, .string ⟨#[]⟩, .string ⟨#[117, 114, 110, 58, 105, 101, 116, 102, 58, 112, 97, 114, 97, 109, 115, 58, 120, 109, 108, 58, 110, 115, 58, 112, 105, 100, 102, 58, 114, 112, 105, 100]⟩, .string ⟨#[97, 99, 116, 105, 118, 105, 116, 105, 101, 115]⟩, .slice none 0 0, .int .i64 3, .string ⟨#[]⟩, .string ⟨#[117, 114, 110, 58, 105, 101, 116, 102, 58, 112, 97, 114, 97, 109, 115, 58, 120, 109, 108, 58, 110, 115, 58, 112, 105, 100, 102, 58, 114, 112, 105, 100]⟩, .string ⟨#[97, 119, 97, 121]⟩, .slice none 0 0] 67)) hgr)
        clear hown hgr hat
        go_wp2_with fail
        go_meet
        exact ⟨_, _, _, _, _, _, rfl, by rw [HE.out]; exact G5.out, B5.out, by omega⟩
    case rest =>
      obtain ⟨x5, m5, q5, A5, N5, C5, rfl, hg5, hb5, hm5⟩ := hcut
      have G5 := Lib.hid hg5
      have B5 := Lib.hid hb5
      have hz5 : w.heap.size ≤ wc.heap.size := B5.out.size
      have hb5w : b < wc.heap.size := by omega
      have d5 := (HP.out.kept B5.out hbw).c5
      dsimp only at d5
      clear hg5 hb5 G4 B4 hz4 hb4 d3 HAC hn4
      go_upto_if 54 with fail
      go_cut [3] (fun v wx => ∃ (x : Option Addr) (m q : Nat) (A : Nat → Option Addr) (N C : Nat → Nat), v = .slice x m q ∧ GrowIts wx w.heap.size (.slice x m q) m ((HL ++ AL) ++ CL) A N C ∧ Below w.heap.size w wx ∧ m ≤ 20)
      case first =>
        by_cases hp0 : qp = 0
        · have HE := Lib.hid (HC.out [] (by rw [if_pos hp0]))
          subst hp0
          go_wp2_with fail
          go_meet
          exact ⟨_, _, _, _, _, _, rfl, by rw [HE.out, List.append_nil]; exact G5.out, B5.out, by omega⟩
        · have HE := Lib.hid (HC.out _ (by rw [if_neg hp0]))
          have q1 : (qp != 0) = true := by rw [bne_iff_ne]; exact hp0
          clear hp0
          go_wp2_with fail
          refine (KT.out _).mono ?_
          rintro e w6 ⟨rfl, hb6⟩
          have H6 := Lib.hid hb6
          clear hb6
          go_wp2_with fail
          refine (KS.out _).mono ?_
          rintro e w7 ⟨rfl, hb7⟩
          have H7 := Lib.hid (below_then H6.out hb7)
          have G7 := Lib.hid (G5.out.below H7.out)
          have B7 := Lib.hid (B5.out.trans (H7.out.mono B5.out.size))
          have hz7 : w.heap.size ≤ w7.heap.size := B7.out.size
          have hb7w : b < w7.heap.size := by omega
          have d1 := (HP.out.kept B7.out hbw).c1
          dsimp only at d1
          clear hb7 H6 G5 B5 hz5 d5
          go_wp2_with (at_builtin; refine wpList_append_own_at _ rfl _ _ 24 rfl w.heap.size 67 i0 (.agg #[.int .i64 0, .string ByteArray.empty, .string ByteArray.empty, .string ByteArray.empty, .slice none 0 0]) 5 80 Tryz.underlying24 hi hz0 hi1 hz2 rfl (by decide) _ m5 _ rfl (((G7.out.row).alloc _).alloc _) ⟨w7.heap.size + 1, 0, none⟩ 2 2 [.int .i64 2, .string ⟨#[]⟩, .string ⟨#[117, 114, 110, 58, 105, 101, 116, 102, 58, 112, 97, 114, 97, 109, 115, 58, 120, 109, 108, 58, 110, 115, 58, 112, 105, 100, 102]⟩, .string ⟨#[99, 111, 110, 116, 97, 99, 116]⟩, .slice (some ⟨w7.heap.size, 0, none⟩) 1 1, .int .i64 3, .string (⟨#[120, 109, 112, 112, 58]⟩ ++ qf), .string ⟨#[]⟩, .string ⟨#[]⟩, .slice none 0 0] rfl rfl (fun j u hj => by have := itemCells2 (w7.alloc (.cells #[.string ⟨#[112, 114, 105, 111, 114, 105, 116, 121]⟩, .string sx] 65)) _ _ _ _ _ _ _ _ _ _ j u hj; simpa using this) (by intro v hv; simp at hv; rcases hv with rfl | rfl | rfl | rfl | rfl | rfl | rfl | rfl | rfl | rfl <;> rfl) (by unfold maxLen; omega) (by omega) (by simp; omega) ?_)
          intro v' w8 hown hgr _ hat
          obtain ⟨a8, c8, rfl⟩ := owns_slice hown
          obtain ⟨A8, N8, C8, hg8⟩ := G7.out.two1 (x := ⟨2, ⟨#[]⟩, ⟨#[117, 114, 110, 58, 105, 101, 116, 102, 58, 112, 97, 114, 97, 109, 115, 58, 120, 109, 108, 58, 110, 115, 58, 112, 105, 100, 102]⟩, ⟨#[99, 111, 110, 116, 97, 99, 116]⟩, [⟨⟨#[112, 114, 105, 111, 114, 105, 116, 121]⟩, sx⟩]⟩) (y := ⟨3, ⟨#[120, 109, 112, 112, 58]⟩ ++ qf, ⟨#[]⟩, ⟨#[]⟩, []⟩) (below2 w7 (.cells #[.string ⟨#[112, 114, 105, 111, 114, 105, 116, 121]⟩, .string sx] 65) (.cells #[.int .i64 2, .string ⟨#[]⟩, .string ⟨#[117, 114, 110, 58, 105, 101, 116, 102, 58, 112, 97, 114, 97, 109, 115, 58, 120, 109, 108, 58, 110, 115, 58, 112, 105, 100, 102]⟩, .string ⟨#[99, 111, 110, 116, 97, 99, 116]⟩, .slice (some ⟨w7.heap.size, 0, none⟩) 1 1, .int .i64 3, .string (⟨#[120, 109, 112, 112, 58]⟩ ++ qf), .string ⟨#[]⟩, .string ⟨#[]⟩, .slice none 0 0] 67)) ((lit_ats1 w7 w7.heap.size (Nat.le_refl _) ⟨#[112, 114, 105, 111, 114, 105, 116, 121]⟩ sx (by decide) (by omega)).later (below1 _ _) (by simp)) (fun e => by cases e) rfl hz7 hown hgr (hat.imp id fun e => ⟨w7.heap.size + 1 + 1, by simpa using e, by simp⟩)
          have G8 := Lib.hid hg8
          have B8 := Lib.hid (GrowIts.step B7.out G7.out (below2 w7 (.cells #[.string ⟨#[112, 114, 105, 111, 114, 105, 116, 121]⟩, .string sx] 65) (.cells #[.int .i64 2, .string ⟨#[]⟩, .string ⟨#[117, 114, 110, 58, 105, 101, 116, 102, 58, 112, 97, 114, 97, 109, 115, 58, 120, 109, 108, 58, 110, 115, 58, 112, 105, 100, 102]⟩, .string ⟨#[99, 111, 110, 116, 97, 99, 116]⟩, .slice (some ⟨w7.heap.size, 0, none⟩) 1 1, .int .i64 3, .string (⟨#[120, 109, 112, 112, 58]⟩ ++ qf), .string ⟨#[]⟩, .string ⟨#[]⟩, .slice none 0 0] 67)) hgr)
          clear hown hgr hat hg8
          go_wp2_with fail
          go_meet
          exact ⟨_, _, _, _, _, _, rfl, by rw [HE.out]; exact G8.out, B8.out, by omega⟩
      case rest =>
        obtain ⟨x9, m9, q9, A9, N9, C9, rfl, hg9, hb9, hm9⟩ := hcut
        have G9 := Lib.hid hg9
        have B9 := Lib.hid hb9
        have hz9 : w.heap.size ≤ wc.heap.size := B9.out.size
        have hb9w : b < wc.heap.size := by omega
        have d4 := (HP.out.kept B9.out hbw).c4
        dsimp only at d4
        have HXX := Lib.hid (HX.out _ rfl)
        clear hg9 hb9 G5 B5 hz5 hb5w d5 HC KT KS hft HX
        cases hue : qu.toList.isEmpty
        · have HN := Lib.hid (note_made qu hue)
          go_wp2_with fail
          refine (l7Leaf_any w.heap.size _ m9 q9 _ _ _ _ 2 ⟨#[117, 114, 110, 58, 105, 101, 116, 102, 58, 112, 97, 114, 97, 109, 115, 58, 120, 109, 108, 58, 110, 115, 58, 112, 105, 100, 102]⟩ ⟨#[110, 111, 116, 101]⟩ qu wc hz9 (by omega) (by omega) G9.out).mono ?_
          rintro e w10 ⟨a10, n10, c10, A10, N10, C10, rfl, hg10, hgr, _⟩
          have G10 : Hid (GrowIts w10 w.heap.size (.slice a10 n10 c10) n10 (HL ++ AL ++ CL ++ noteP8 qu) A10 N10 C10) := Lib.hid (by rw [← HN.out]; exact hg10)
          have B10 := Lib.hid (GrowIts.step B9.out G9.out (Below.refl _ _) hgr)
          clear hg10 hgr
          go_wp2
          go_ret
          exact ⟨_, _, _, _, _, _, rfl, by rw [HXX.out]; exact G10.out, B10.out⟩
        · have HN : Hid (noteP8 qu = []) := Lib.hid (by unfold noteP8; rw [if_pos hue])
          go_wp2
          go_ret
          exact ⟨_, _, _, _, _, _, rfl, by rw [HXX.out, HN.out, List.append_nil]; exact G9.out, B9.out⟩
end Go.Proofs.YtcaknhoaoodbfaaGreatDoor
