/- Texts laid together, part 10. -/
import Derived.Test.YtbfjhjkllaceaaaGreatDoorGA9
import Derived.Deep.RegionHeld3

/- The model's UnpackTree: the walk. -/
namespace Go.Proofs.YtbfjhjkllaceaaaGreatDoor
open Go.ChangeShapes Go.WideShapes Go.ChangeAt Go.RowKit
set_option linter.unusedVariables false

open Classical in
/-- the code and the items of UnpackTree -/
noncomputable def unCodeT (xs : List Int) : Int := if 3000 < xs.length then 2 else if unOk xs then 0 else 5
open Classical in
noncomputable def unIts (xs : List Int) : List It := if 3000 < xs.length then [] else if unOk xs then (unI xs).2 else []
/-- a code and items of one's own are handed back -/
def UnRes (w : World) (cd : Int) (l : List It) (e : Ending) (w' : World) : Prop :=
  ∃ a n c, e = .returned (.agg #[.int .i64 cd, .slice a n c]) ∧ OwnIts w' w.heap.size w'.heap.size a n c l ∧ Below w.heap.size w w'
theorem no_items (w : World) (lo hi : Nat) : OwnIts w lo hi none 0 0 [] := ⟨rfl, by omega, fun i hi => by omega, .inl rfl⟩

theorem RdAt.fresh {w W : World} {a : Option Addr} {n c : Nat} {xs : List Int} (T : TypeId) (hW : Below w.heap.size w W) (hn : n = xs.length) (hr : Row w .u8 (.slice a n c) xs) (hby : ∀ i, 0 ≤ xs.getD i 0 ∧ xs.getD i 0 ≤ 255) :
    RdAt w (W.alloc (.cells #[.slice a n c, .slice none 0 0, .bool false] T)) W.heap.size ⟨xs, false⟩ [] :=
  ⟨by simp, hW.size, hW.alloc hW.size _, hby, ⟨a, n, c, by simp, hn, hr⟩, ⟨none, 0, 0, by simp, World.ownsRow_nil _ _ _ _, by simp [Value.ownBlock]⟩, by simp, by simp, by simp, by simp⟩

/-- an operation that is not wanted -/
theorem step_skip {P : Program} {ops : Array Oper} {o : Oper} {a : Act} {w : World} {K : Act → World → Prop} {Q : Exit → Act → World → Prop} {E : Prop} (hw : Region.wanted o (yielded ops a.tmps) = false) (h : E) :
    if Region.wanted o (yielded ops a.tmps) = true then Oper.wp P o a w K Q else E := by
  rw [if_neg (by rw [hw]; decide)]
  exact h
/-- two cells of a result -/
structure R2 (w : World) (b : Nat) (v0 v1 : Value) : Prop where
  lt : b < w.heap.size
  c0 : w.cell? ⟨b, 0, none⟩ = some v0
  c1 : w.cell? ⟨b, 1, none⟩ = some v1
  f0 : w.frozen? ⟨b, 0, none⟩ = false
  f1 : w.frozen? ⟨b, 1, none⟩ = false
theorem R2.new (w : World) (T : TypeId) (v0 v1 : Value) : R2 (w.alloc (.cells #[v0, v1] T)) w.heap.size v0 v1 := ⟨by simp, by simp, by simp, by simp, by simp⟩
theorem R2.grown {w w' : World} {b : Nat} {v0 v1 : Value} {row : Option Nat} (h : R2 w b v0 v1) (hg : w.grownBy w' row) (hne : some b ≠ row) : R2 w' b v0 v1 :=
  ⟨Nat.lt_of_lt_of_le h.lt hg.size, hg.cell h.c0 hne, hg.cell h.c1 hne, (hg.frozen_far ⟨b, 0, none⟩ h.lt hne).trans h.f0, (hg.frozen_far ⟨b, 1, none⟩ h.lt hne).trans h.f1⟩
theorem own_onlyI {w w' : World} {lo hi lo' hi' : Nat} {a : Option Addr} {n c : Nat} {l : List It} {P : Nat → Prop} (h : OwnIts w lo hi a n c l) (ho : Only P w w') (hP : ∀ i, lo ≤ i → ¬ P i) (h1 : lo' ≤ lo) (h2 : hi ≤ hi') : OwnIts w' lo' hi' a n c l := by
  refine ⟨h.len, h.max, h.it, h.row.imp id ?_⟩
  rintro ⟨b, A, N, C, ha, g1, g2, hr, hc, hab, haa⟩
  refine ⟨b, A, N, C, ha, by omega, by omega, hr.only ho (hP b g1), fun i hi => ?_, hab, haa⟩
  have k1 := (hc i hi).1.only hr.1 ho (hP b g1)
  have k2 := (hc i hi).2.only ho fun x hx hne => by
    obtain ⟨b5, e5, q1, q2, _⟩ := (hc i hi).2.own.resolve_left hne
    rw [hx] at e5
    cases e5
    exact hP b5 q1
  exact ⟨k1, k2.ats, k2.own.imp id fun ⟨b5, e5, q1, q2, q3⟩ => ⟨b5, e5, by omega, by omega, q3⟩⟩
theorem own_belowI {w w' : World} {lo : Nat} {a : Option Addr} {n c : Nat} {l : List It} (h : OwnIts w lo w.heap.size a n c l) (hb : Below w.heap.size w w') : OwnIts w' lo w'.heap.size a n c l :=
  own_onlyI h (Only.below (P := fun _ => False) hb) (fun _ _ h => h) (Nat.le_refl _) hb.size
theorem own_setI {w : World} {lo hi : Nat} {a : Option Addr} {n c : Nat} {l : List It} (h : OwnIts w lo hi a n c l) (p : Addr) (v : Value) (hp : p.block < lo) : OwnIts (w.setCell p v) lo hi a n c l :=
  own_onlyI h (Only.set (P := fun i => i = p.block) w p v rfl) (fun i hi e => by omega) (Nat.le_refl _) (Nat.le_refl _)
theorem R2.below {w w' : World} {b : Nat} {v0 v1 : Value} (h : R2 w b v0 v1) (hb : Below w.heap.size w w') : R2 w' b v0 v1 := h.grown (row := none) (grown_below hb) (by simp)
theorem GrowIts.far {w w' : World} {B b : Nat} {v : Value} {n : Nat} {l : List It} {A : Nat → Option Addr} {N C : Nat → Nat} (h : GrowIts w B v n l A N C) (hg : w.grownBy w' (some b)) (hb : b < B) : GrowIts w' B v n l A N C := by
  refine ⟨row_kept h.row hg (fun e => by have := (h.row.lt b e).1; omega), fun i hi => ⟨?_, (h.ats i hi).2⟩, h.apart, h.each⟩
  have h1 := (h.ats i hi).1.only (Only.grown hg) fun y hy hne e => by
    have := (h.ats i hi).1.in hy hne
    simp only [Option.some.injEq] at e
    omega
  exact ⟨h1.ats, h1.own.imp id fun ⟨q, g1, g2, g3, g4⟩ => ⟨q, g1, g2, by have := hg.size; omega, g4⟩⟩
theorem itCells (W : World) (v0 v1 v2 v3 v4 : Value) (j : Nat) (u : Value) (hj : [v0, v1, v2, v3, v4][j]? = some u) : ((W.alloc (.cells #[v0, v1, v2, v3, v4] 68))).cell? (Addr.add ⟨W.heap.size, 0, none⟩ j) = some u := by
  match j, hj with
  | 0, hj => simp at hj; subst hj; simp [Addr.add]
  | 1, hj => simp at hj; subst hj; simp [Addr.add]
  | 2, hj => simp at hj; subst hj; simp [Addr.add]
  | 3, hj => simp at hj; subst hj; simp [Addr.add]
  | 4, hj => simp at hj; subst hj; simp [Addr.add]
theorem growStart (w : World) : GrowIts (w.alloc (.cells #[] 68)) w.heap.size (.slice (some ⟨w.heap.size, 0, none⟩) 0 0) 0 [] (fun _ => none) (fun _ => 0) (fun _ => 0) :=
  ⟨lit_item w, fun i hi => by simp at hi, fun i hi => by simp at hi, fun i j hi => by simp at hi⟩

set_option maxRecDepth 100000 in
set_option maxHeartbeats 6400000 in
theorem specUnpackTree_any (a : Option Addr) (n c : Nat) (xs : List Int) (w : World) (hn : n = xs.length) (hm : n ≤ 1048576) (h : Row w .u8 (.slice a n c) xs) (hby : ∀ i, 0 ≤ xs.getD i 0 ∧ xs.getD i 0 ≤ 255) :
    Calls Tryz.prog 16 #[.slice a n c] w (UnRes w (unCodeT xs) (unIts xs)) := by
  obtain ⟨i0, hi, hz0, hi1, hz2⟩ := info_parts itemInfo
  unfold UnRes
  by_cases h3 : 3000 < n
  · have e1 : unCodeT xs = 2 := by unfold unCodeT; rw [if_pos (by omega)]
    have e2 : unIts xs = [] := by unfold unIts; rw [if_pos (by omega)]
    rw [e1, e2]
    clear h hby hn e1 e2
    go_enter Tryz.func16, Tryz.ntmps16
    go_wp2
    exact bodyPost_ret (v := .agg #[.int .i64 2, .slice none 0 0]) (by simp [results, Tryz.results16, go_sem]) rfl
      ⟨none, 0, 0, rfl, no_items _ _ _, below1 w _⟩
  · have HUN := Lib.hid (show ∃ z, z = unOk xs from ⟨_, rfl⟩)
    generalize hcd : unCodeT xs = cd
    generalize hit : unIts xs = its
    have HCD := Lib.hid hcd
    have HIT := Lib.hid hit
    have h3' : (n : Int) ≤ 3000 := by omega
    have KS := Lib.hid (fun (W : World) (b : Nat) (hh : RdAt w W b ⟨xs, false⟩ []) (hnil : W.cell? ⟨b, 1, none⟩ = some (.slice none 0 0)) => strings_any w b ⟨xs, false⟩ W hh hnil (by show xs.length ≤ 3000; omega))
    have HF := Lib.hid (fun (W : World) (T : TypeId) (hW : Below w.heap.size w W) => RdAt.fresh T hW hn h hby)
    have HR := Lib.hid h
    have HBY := Lib.hid hby
    have HN := Lib.hid hn
    clear h hby hn hcd hit h3
    go_enter Tryz.func16, Tryz.ntmps16
    go_wp2_with fail
    refine (KS.out _ (w.heap.size + 1) (by have := HF.out (w.alloc (.cells #[.int .i64 0, .slice none 0 0] 31)) 64 (below1 w _); simpa using this) (by simp)).mono ?_
    rintro e w1 ⟨rfl, hr1, hg1⟩
    have hS : unS xs = rdS (xs.length + 1) (numV ⟨xs, false⟩) (numR ⟨xs, false⟩) [] := rfl
    have hr1 : RdAt w w1 (w.heap.size + 1) (unS xs).1 (unS xs).2 := hr1
    have hI : unI xs = rdI (unS xs).2 (xs.length + 1) (numV (unS xs).1) (numR (unS xs).1) [] := rfl
    have hsm := rdS_small (xs.length + 1) (numV ⟨xs, false⟩) (numR ⟨xs, false⟩) [] (fun t ht => by simp at ht)
    rw [← hS] at hsm
    have hlr : (unS xs).1.xs.length ≤ 3000 := by
      have h1 := hsm.2
      have h2 := numR_len ⟨xs, false⟩
      have h3 := HN.out
      have h4 : (numR ⟨xs, false⟩).xs.length ≤ xs.length := h2
      omega
    have hbn := numV_bd (unS xs).1
    have hl5 : left (numR (unS xs).1) ≤ xs.length + 1 := by
      have h1 := left_len (numR (unS xs).1)
      have h2 := numR_len (unS xs).1
      have h3 := hsm.2
      have h4 : (numR ⟨xs, false⟩).xs.length ≤ xs.length := numR_len ⟨xs, false⟩
      omega
    have hx5 : (numR (unS xs).1).xs.length ≤ 3000 := Nat.le_trans (numR_len _) hlr
    have hts := hsm.1
    have HOKD : Hid (unOk xs ↔ (unI xs).1.bad = false ∧ treeCode (unI xs).2 = 0 ∧ packL (unI xs).2 = xs) := Lib.hid Iff.rfl
    have HUI := Lib.hid hI
    generalize (unS xs).2 = ts at *
    generalize (unS xs).1 = r1 at *
    generalize hFU0 : unI xs = F at *
    have HFU := Lib.hid (congrArg Prod.snd hFU0)
    clear hFU0
    have HC5 : Hid (¬ unOk xs → cd = 5 ∧ its = []) := Lib.hid (fun hno => by
      have h3 := HN.out
      rw [← HCD.out, ← HIT.out]
      unfold unCodeT unIts
      rw [if_neg (by omega), if_neg hno, if_neg (by omega), if_neg hno]
      exact ⟨rfl, rfl⟩)
    have HC0 : Hid (unOk xs → cd = 0 ∧ its = F.2) := Lib.hid (fun hyes => by
      have h3 := HN.out
      rw [← HCD.out, ← HIT.out]
      unfold unCodeT unIts
      rw [if_neg (by omega), if_pos hyes, if_neg (by omega), if_pos hyes]
      exact ⟨rfl, HFU.out⟩)
    have HE := Lib.hid hr1
    have HV1 := Lib.hid ((R2.new w 31 (.int .i64 0) (.slice none 0 0)).below (below1 _ (.cells #[.slice a n c, .slice none 0 0, .bool false] 64)))
    have KN : Hid (∀ (q : Rd) (W : World) (hh : ItSt w w1 W (w.heap.size + 1) q ts), Calls Tryz.prog 43 #[.pointer (some ⟨w.heap.size + 1, 0, none⟩)] W fun e w' => e = .returned (.int .i64 (numV q)) ∧ ItSt w w1 w' (w.heap.size + 1) (numR q) ts ∧ W.grownBy w' (some (w.heap.size + 1))) :=
      Lib.hid (fun q W hh => (number_any w (w.heap.size + 1) q ts W hh.rd).mono fun e w' ⟨a, bb, c, d⟩ => ⟨a, ⟨bb, grown_trans' hh.gr c, d.trans hh.lst⟩, c⟩)
    have HG1 := Lib.hid hg1
    have H1 : Hid (ItSt w w1 w1 (w.heap.size + 1) r1 ts) := Lib.hid ⟨hr1, World.grownBy.refl _ _, rfl⟩
    have hlt1 := hr1.lt
    clear hr1 hg1 hS hI hsm KS
    go_wp2_with fail
    refine (KN.out r1 _ (H1.out.below (below1 w1 _))).mono ?_
    rintro e w2 ⟨rfl, s2, g2⟩
    have S2 := Lib.hid s2
    have G2 := Lib.hid ((growStart w1).far g2 hlt1)
    have V2 := Lib.hid (((HV1.out.grown HG1.out (by simp)).below (below1 _ (.cells #[] 68))).grown g2 (by simp))
    clear s2 g2
    have HEQ : Hid (rdI ts (xs.length + 1) (numV r1) (numR r1) [] = F) := Lib.hid HUI.out.symm
    have hL : xs.length ≤ 3000 := by have := HN.out; omega
    generalize xs.length = L at *
    go_wp2
    go_loopw [4, 5] (fun v k wr => ∃ (f : Nat) (n : Int) (q : Rd) (es : List It) (A : Nat → Option Addr) (N C : Nat → Nat) (a : Option Addr) (m c : Nat), v = .slice a m c ∧ k = .int .i64 n ∧ (0 ≤ n ∧ n ≤ 9223372036854775807) ∧ left q ≤ f ∧ Hid (rdI ts f n q es = F) ∧
        ItSt w w1 wr (w.heap.size + 1) q ts ∧ GrowIts wr w1.heap.size (.slice a m c) m es A N C ∧ R2 wr w.heap.size (.int .i64 0) (.slice none 0 0) ∧ m + left q ≤ L + 1 ∧ (∀ i, ReadIt (es.getD i dIt)) ∧ q.xs.length ≤ 3000) (fun _ _ wr => msr wr (w.heap.size + 1))
    case atStart => exact ⟨L + 1, numV r1, numR r1, [], _, _, _, _, 0, 0, rfl, rfl, hbn, hl5, HEQ, S2.out, G2.out, V2.out, by omega, fun i => by simpa using dIt_read, hx5⟩
    case round =>
      obtain ⟨f, n', q, es, A, N, C, a', m, c', rfl, rfl, hn', hf, HQ, hS, hG, hV, hm', hrd, hqx⟩ := hrel
      have SS := Lib.hid hS
      have GG := Lib.hid hG
      have VV := Lib.hid hV
      have RD := Lib.hid hrd
      have q2 := hS.rd.c2
      have hlt' := hS.rd.lt
      have HM := Lib.hid (msr_is hS.rd)
      clear hS hG hV hrd
      by_cases hgo : 0 < n' ∧ q.bad = false
      · obtain ⟨hn1, hbad⟩ := hgo
        rw [hbad] at q2
        have hl1 : 1 ≤ left q := by unfold left; rw [hbad]; simp
        obtain ⟨f', rfl⟩ : ∃ f', f = f' + 1 := ⟨f - 1, by omega⟩
        have hF := HQ.out
        rw [rdI_go ⟨hn1, hbad⟩] at hF
        have hle1 := (itR_left ts q).2 hbad
        have hlx := itR_len ts q
        have KI := Lib.hid (item_any w (w.heap.size + 1) q ts wr SS.out.rd hqx hts)
        unfold ItGot at KI
        have hri := itV_read hts q hqx
        generalize itV ts q = y at *
        generalize itR ts q = q' at *
        have HF2 := Lib.hid hF
        have HRI := Lib.hid hri
        clear hF hri
        obtain ⟨yd, yt, ys, yn, ya⟩ := y
        dsimp only at KI
        go_wp2_with fail
        refine KI.out.mono ?_
        rintro e w3 ⟨a6, n6, c6, rfl, ho6, hnil6, s6⟩
        have O6 := Lib.hid ho6
        have NIL6 := Lib.hid hnil6
        have S6 := Lib.hid s6
        clear ho6 hnil6 s6 q2
        obtain ⟨X, hX⟩ : ∃ X, X = Obj.cells #[.int .i64 yd, .string yt, .string ys, .string yn, .slice a6 n6 c6] 68 := ⟨_, rfl⟩
        have hXX := Lib.hid hX
        have OR := Lib.hid (row_kept GG.out.row S6.out.gr (fun e => by have := (GG.out.row.lt _ e).1; omega))
        have hge1 : w1.heap.size ≤ wr.heap.size := SS.out.gr.size
        have hge3 : wr.heap.size ≤ w3.heap.size := S6.out.gr.size
        clear hX
        go_wp2_with (at_builtin; refine wpList_append_own_at _ rfl _ _ 24 rfl w1.heap.size 68 i0 (.agg #[.int .i64 0, .string ByteArray.empty, .string ByteArray.empty, .string ByteArray.empty, .slice none 0 0]) 5 80 Tryz.underlying24 hi hz0 hi1 hz2 rfl (by decide) _ m _ rfl ((OR.out.alloc _).alloc _) ⟨w3.heap.size + 1, 0, none⟩ 1 1 [.int .i64 yd, .string yt, .string ys, .string yn, .slice a6 n6 c6] rfl rfl ?c1 ?c2 ?c3 ?c4 ?c5 ?_)
        case c1 => exact fun j u hj => by have := itCells (w3.alloc (.cells #[.int .i64 yd, .string yt, .string ys, .string yn, .slice a6 n6 c6] 68)) _ _ _ _ _ j u hj; simpa using this
        case c2 => intro v hv; simp at hv; rcases hv with rfl | rfl | rfl | rfl | rfl <;> rfl
        case c3 => unfold maxLen; omega
        case c4 => omega
        case c5 => simp; omega
        intro v' w4 hown' hgrow _ hat
        obtain ⟨a8, c8, rfl⟩ := owns_slice hown'
        have hb2 := below2 w3 (.cells #[.int .i64 yd, .string yt, .string ys, .string yn, .slice a6 n6 c6] 68) (.cells #[.int .i64 yd, .string yt, .string ys, .string yn, .slice a6 n6 c6] 68)
        have hatt := O6.out.only (Only.below (P := fun _ => False) hb2) fun _ _ _ h => h
        have G8 := Lib.hid (GG.out.snocO (P := fun i => some i = some (w.heap.size + 1)) (x := ⟨yd, yt, ys, yn, ya⟩) ((Only.grown S6.out.gr).trans (Only.below hb2)) (fun i hi e => by simp only [Option.some.injEq] at e; omega)
          ⟨hatt.ats, hatt.own.imp id fun ⟨q, g1, g2, g3, g4⟩ => ⟨q, g1, g2, by have := hb2.size; omega, g4⟩⟩ NIL6.out hge1 hown' hgrow (hat.imp id fun e => ⟨w3.heap.size + 1 + 1, e, by simp⟩))
        have S8 := Lib.hid (((show ItSt w w1 w3 (w.heap.size + 1) q' ts from ⟨S6.out.rd, grown_trans' SS.out.gr S6.out.gr, S6.out.lst.trans SS.out.lst⟩).below hb2).far HE.out hgrow (fun g hg => (OR.out.lt g hg).1))
        have V8 := Lib.hid (((VV.out.grown S6.out.gr (by simp)).below hb2).grown hgrow (fun e => by have := (OR.out.lt _ e.symm).1; omega))
        have HM8 := Lib.hid (msr_is S8.out.rd)
        have RD8 := Lib.hid (reads_snoc RD.out HRI.out)
        clear hown' hgrow hat hatt hb2
        go_wp2
        go_roundw
        case rel => exact ⟨f', n' - 1, q', es ++ [⟨yd, yt, ys, yn, ya⟩], _, _, _, a8, m + 1, c8, rfl, by go_num, by omega, by omega, HF2, S8.out, G8.out, V8.out, by omega, RD8.out, by omega⟩
        case measure => rw [HM8.out, HM.out]; omega
      · have hF := HQ.out
        rw [rdI_stop hgo] at hF
        have hcs : n' ≤ 0 ∨ (0 < n' ∧ q.bad = true) := by
          by_cases h1 : 0 < n'
          · refine .inr ⟨h1, ?_⟩
            cases hb : q.bad
            · exact absurd ⟨h1, hb⟩ hgo
            · rfl
          · exact .inl (by omega)
        have hF1 : F.1 = q := by rw [← hF]
        have hF2 : F.2 = es := by rw [← hF]
        have OK := Lib.hid HOKD.out
        rw [hF1, hF2] at OK
        have C0 := Lib.hid HC0.out
        rw [hF2] at C0
        have OI := Lib.hid (GG.out.own (by omega) (fun i hi => by have := RD.out i; exact ⟨⟨by have := this.depth; omega, this.depth.2⟩, ⟨by have := this.sizes; omega, by have := this.sizes; omega, by have := this.sizes; omega⟩⟩))
        have IT := Lib.hid OI.out.its
        have KTF := Lib.hid (fun (W : World) (hW : Below wr.heap.size wr W) => specTreeFault_any a' m c' es W (smallIts (by have := IT.out.len; omega) RD.out) (IT.out.below hW))
        have v0 := VV.out.c0
        have v1 := VV.out.c1
        have vf0 := VV.out.f0
        have vf1 := VV.out.f1
        have vlt := VV.out.lt
        have HB0 : Hid (Below w.heap.size w wr) := Lib.hid SS.out.rd.below
        clear hgo hF hF1 hF2
        rcases hcs with hn0 | ⟨hn1, hbt⟩
        · obtain rfl : n' = 0 := by omega
          cases hbq : q.bad
          · rw [hbq] at q2 OK
            have hcvf := fun (W : World) (hW : Below w.heap.size w W) => conv_row (P := Tryz.prog) W Tryz.underlying22 Tryz.underlying5 Tryz.underlying9 (HR.out.below hW)
            have HCVF := Lib.hid hcvf
            have hcv0 := hcvf wr.drew (below_drewN HB0.out 1)
            clear hcvf
            by_cases htc : treeCode es = 0
            · obtain ⟨hl40, hgood⟩ := goodTree htc
              have KP := Lib.hid (fun (W : World) (hW : Below wr.heap.size wr W) => l6Pack_any a' m c' es W hl40 hgood (IT.out.below hW))
              unfold OwnsRes at KP
              rw [htc] at KTF
              have htest := nums_test (packL es) xs (packL_bytes es) (getD_bytes HBY.out)
              rw [htc] at OK
              by_cases hpk : packL es = xs
              · obtain ⟨rfl, rfl⟩ := C0.out (OK.out.2 ⟨rfl, rfl, hpk⟩)
                rw [decide_eq_true hpk] at htest
                clear hpk hgood
                generalize packL its = PP at *
                go_wp2_with fail
                first | (go_region_with (first | (go_at_call 38; refine (KTF.out _ (below_drewN (Below.refl _ _) 1)).mono ?_; rintro e w5 ⟨rfl, hb5⟩; have hcv5 := HCVF.out w5 (below_then HB0.out (below_of_drew hb5))) | (go_at_call 29; refine (KP.out _ (below_of_drew hb5)).mono ?_; rintro e w7 ⟨a7, n7, c7, rfl, ho7, hb7⟩; have hcv7 := conv_row (P := Tryz.prog) w7 Tryz.underlying22 Tryz.underlying5 Tryz.underlying9 (Row.of_owns ho7); have hcv8 := HCVF.out w7 (below_then (below_then HB0.out (below_of_drew hb5)) hb7); clear ho7))) | fail
                all_goals
                  have hbb := below_then (below_of_drew hb5) hb7
                  have y := VV.out.below hbb
                  have y0 := y.c0
                  have y1 := y.c1
                  have yf0 := y.f0
                  have yf1 := y.f1
                  have ylt := y.lt
                  have HB5 := Lib.hid (below_then HB0.out hbb)
                  have OI7 := Lib.hid (own_belowI OI.out hbb)
                  clear y hbb
                  have z0 : ((w7.setCell ⟨w.heap.size, 0, none⟩ (.int .i64 0)).setCell ⟨w.heap.size, 1, none⟩ (.slice a' m c')).cell? ⟨w.heap.size, 0, none⟩ = some (.int .i64 0) := set_oth (by decide) (set_at y0)
                  have z1 : ((w7.setCell ⟨w.heap.size, 0, none⟩ (.int .i64 0)).setCell ⟨w.heap.size, 1, none⟩ (.slice a' m c')).cell? ⟨w.heap.size, 1, none⟩ = some (.slice a' m c') := set_at (set_oth (by decide) y1)
                  go_wp2
                  exact bodyPost_ret (v := .agg #[.int .i64 0, .slice a' m c']) (by simp [results, Tryz.results16, go_sem, z0, z1]) rfl ⟨a', m, c', rfl, own_onlyI (P := fun _ => False) (own_setI (own_setI OI7.out ⟨w.heap.size, 0, none⟩ _ (by simp; omega)) ⟨w.heap.size, 1, none⟩ _ (by simp; omega)) (Only.refl _) (fun _ _ h => h) (by omega) (by simp), (HB5.out.setCell (Nat.le_refl _) _).setCell (Nat.le_refl _) _⟩
              · obtain ⟨rfl, rfl⟩ := HC5.out (fun h => hpk (OK.out.1 h).2.2)
                rw [decide_eq_false hpk] at htest
                clear hpk hgood
                generalize packL es = PP at *
                go_wp2_with fail
                first | (go_region_with (first | (go_at_call 38; refine (KTF.out _ (below_drewN (Below.refl _ _) 1)).mono ?_; rintro e w5 ⟨rfl, hb5⟩; have hcv5 := HCVF.out w5 (below_then HB0.out (below_of_drew hb5))) | (go_at_call 29; refine (KP.out _ (below_of_drew hb5)).mono ?_; rintro e w7 ⟨a7, n7, c7, rfl, ho7, hb7⟩; have hcv7 := conv_row (P := Tryz.prog) w7 Tryz.underlying22 Tryz.underlying5 Tryz.underlying9 (Row.of_owns ho7); have hcv8 := HCVF.out w7 (below_then (below_then HB0.out (below_of_drew hb5)) hb7); clear ho7))) | fail
                all_goals
                  have hbb := below_then (below_of_drew hb5) hb7
                  have y := VV.out.below hbb
                  have y0 := y.c0
                  have y1 := y.c1
                  have yf0 := y.f0
                  have yf1 := y.f1
                  have ylt := y.lt
                  have HB5 := Lib.hid (below_then HB0.out hbb)
                  have OI7 := Lib.hid (own_belowI OI.out hbb)
                  clear y hbb
                  have z0 : ((w7.setCell ⟨w.heap.size, 0, none⟩ (.int .i64 5)).setCell ⟨w.heap.size, 1, none⟩ (.slice none 0 0)).cell? ⟨w.heap.size, 0, none⟩ = some (.int .i64 5) := set_oth (by decide) (set_at y0)
                  have z1 : ((w7.setCell ⟨w.heap.size, 0, none⟩ (.int .i64 5)).setCell ⟨w.heap.size, 1, none⟩ (.slice none 0 0)).cell? ⟨w.heap.size, 1, none⟩ = some (.slice none 0 0) := set_at (set_oth (by decide) y1)
                  go_wp2
                  exact bodyPost_ret (v := .agg #[.int .i64 5, .slice none 0 0]) (by simp [results, Tryz.results16, go_sem, z0, z1]) rfl ⟨none, 0, 0, rfl, no_items _ _ _, (HB5.out.setCell (Nat.le_refl _) _).setCell (Nat.le_refl _) _⟩
            · have hno : ¬ unOk xs := fun h => htc (OK.out.1 h).2.1
              obtain ⟨rfl, rfl⟩ := HC5.out hno
              generalize treeCode es = tc at *
              have ht0 : (tc == 0) = false := by simpa using htc
              have ht1 : (tc != 0) = true := by simpa using htc
              go_wp2_with fail
              first | (go_region_with (go_at_call 38; refine (KTF.out _ (below_drewN (Below.refl _ _) 1)).mono ?_; rintro e w5 ⟨rfl, hb5⟩)) | fail
              all_goals
                have y := VV.out.below (below_of_drew hb5)
                have y0 := y.c0
                have y1 := y.c1
                have yf0 := y.f0
                have yf1 := y.f1
                have ylt := y.lt
                have z0 : ((w5.setCell ⟨w.heap.size, 0, none⟩ (.int .i64 5)).setCell ⟨w.heap.size, 1, none⟩ (.slice none 0 0)).cell? ⟨w.heap.size, 0, none⟩ = some (.int .i64 5) := set_oth (by decide) (set_at y0)
                have z1 : ((w5.setCell ⟨w.heap.size, 0, none⟩ (.int .i64 5)).setCell ⟨w.heap.size, 1, none⟩ (.slice none 0 0)).cell? ⟨w.heap.size, 1, none⟩ = some (.slice none 0 0) := set_at (set_oth (by decide) y1)
                have HB5 := Lib.hid (below_then HB0.out (below_of_drew hb5))
                clear y
                go_wp2
                exact bodyPost_ret (v := .agg #[.int .i64 5, .slice none 0 0]) (by simp [results, Tryz.results16, go_sem, z0, z1]) rfl ⟨none, 0, 0, rfl, no_items _ _ _, (HB5.out.setCell (Nat.le_refl _) _).setCell (Nat.le_refl _) _⟩
          · rw [hbq] at q2 OK
            obtain ⟨rfl, rfl⟩ := HC5.out (fun h => by have := (OK.out.1 h).1; cases this)
            have z0 : ((wr.setCell ⟨w.heap.size, 0, none⟩ (.int .i64 5)).setCell ⟨w.heap.size, 1, none⟩ (.slice none 0 0)).cell? ⟨w.heap.size, 0, none⟩ = some (.int .i64 5) := set_oth (by decide) (set_at v0)
            have z1 : ((wr.setCell ⟨w.heap.size, 0, none⟩ (.int .i64 5)).setCell ⟨w.heap.size, 1, none⟩ (.slice none 0 0)).cell? ⟨w.heap.size, 1, none⟩ = some (.slice none 0 0) := set_at (set_oth (by decide) v1)
            go_wp2_with fail
            first | (go_region_with (go_at_call 38; fail)) | fail
            all_goals
              go_wp2
              exact bodyPost_ret (v := .agg #[.int .i64 5, .slice none 0 0]) (by simp [results, Tryz.results16, go_sem, z0, z1]) rfl ⟨none, 0, 0, rfl, no_items _ _ _, below_drewN ((HB0.out.setCell (Nat.le_refl _) _).setCell (Nat.le_refl _) _) 1⟩
        · rw [hbt] at q2 OK
          obtain ⟨rfl, rfl⟩ := HC5.out (fun h => by have := (OK.out.1 h).1; cases this)
          have z0 : ((wr.setCell ⟨w.heap.size, 0, none⟩ (.int .i64 5)).setCell ⟨w.heap.size, 1, none⟩ (.slice none 0 0)).cell? ⟨w.heap.size, 0, none⟩ = some (.int .i64 5) := set_oth (by decide) (set_at v0)
          have z1 : ((wr.setCell ⟨w.heap.size, 0, none⟩ (.int .i64 5)).setCell ⟨w.heap.size, 1, none⟩ (.slice none 0 0)).cell? ⟨w.heap.size, 1, none⟩ = some (.slice none 0 0) := set_at (set_oth (by decide) v1)
          go_wp2_with fail
          first | (go_region_with (go_at_call 38; fail)) | fail
          all_goals
            go_wp2
            exact bodyPost_ret (v := .agg #[.int .i64 5, .slice none 0 0]) (by simp [results, Tryz.results16, go_sem, z0, z1]) rfl ⟨none, 0, 0, rfl, no_items _ _ _, below_drewN ((HB0.out.setCell (Nat.le_refl _) _).setCell (Nat.le_refl _) _) 1⟩
end Go.Proofs.YtbfjhjkllaceaaaGreatDoor

/- The program's reader of frames: items. -/
namespace Go.Proofs.YtbfjhjkllaceaaaGreatDoor
open Go.ChangeShapes Go.WideShapes Go.ChangeAt Go.RowKit
set_option linter.unusedVariables false

theorem growNil (w : World) (B : Nat) : GrowIts w B (.slice none 0 0) 0 [] (fun _ => none) (fun _ => 0) (fun _ => 0) :=
  ⟨World.ownsRow_nil _ _ _ _, fun i hi => by simp at hi, fun i hi => by simp at hi, fun i j hi => by simp at hi⟩
/-- behind a step of the book -/
theorem RpAt.placed {w0 w w' : World} {b m : Nat} {g g' : Option Nat} {xs : List Int} {ts ts' : List ByteArray} (h : RpAt w0 w b m g xs ts) (hb : BookAt (fun i => w0.heap.size ≤ i) w0 w' b m g' ts') (h2 : w'.cell? ⟨b, 2, none⟩ = w.cell? ⟨b, 2, none⟩ ∧ w'.frozen? ⟨b, 2, none⟩ = w.frozen? ⟨b, 2, none⟩) : RpAt w0 w' b m g' xs ts' := by
  obtain ⟨a, n, c, h3, h4, h5⟩ := h.c2
  exact ⟨hb, h.byte, ⟨a, n, c, h2.1.trans h3, h4, h5⟩, h2.2.trans h.f2⟩

/-- the whole frame was read -/
def ItsP (w0 w : World) (b m : Nat) (g : Option Nat) (es : List It) (e : Ending) (w' : World) : Prop :=
  ∃ a n c g' xs' ts' lo, e = .returned (.slice a n c) ∧ OwnIts w' lo w'.heap.size a n c es ∧ w.heap.size ≤ lo ∧ (∀ i, BookP b m g' i → i < lo) ∧ RpAt w0 w' b m g' xs' ts' ∧ NewG w g g' ∧ Only (BookP b m g) w w'

set_option maxRecDepth 100000 in
set_option maxHeartbeats 6400000 in
theorem pitems_any (w0 : World) (sa : Addr) (hs : Sent w0 sa) (hT : Tabs w0) (b m : Nat) (g : Option Nat) (xs : List Int) (w : World) (h : RpAt w0 w b m g xs []) (hl : xs.length ≤ 3000) :
    Calls Tryz.prog 34 #[.pointer (some ⟨b, 0, none⟩)] w (ItsP w0 w b m g (pI xs)) := by
  obtain ⟨i0, hi, hz0, hi1, hz2⟩ := info_parts itemInfo
  have KC := Lib.hid (fun (g : Option Nat) (q : List Int) (ts : List ByteArray) (W : World) (h : RpAt w0 W b m g q ts) => pcount_any w0 sa hs b m g q ts W h)
  unfold NumP at KC
  have KT := Lib.hid (fun (g : Option Nat) (q : List Int) (ts : List ByteArray) (W : World) (h : RpAt w0 W b m g q ts) => ptext_any w0 sa hs hT b m g q ts W h)
  unfold TxtP at KT
  have KP := Lib.hid (fun (g : Option Nat) (ts : List ByteArray) (t : ByteArray) (W : World) (h : BookAt (fun i => w0.heap.size ≤ i) w0 W b m g ts) (hl : ts.length ≤ 100000) (ht : t.size ≤ 9223372036854775807) => placeOf_all (fun i => w0.heap.size ≤ i) w0 b m g ts t W h hl ht)
  unfold PlaceAll PlaceRes at KP
  unfold ItsP
  have K0 := Lib.hid (KC.out g xs [] w h)
  have HE := Lib.hid h
  have hbd := cN_bd xs
  have hcl := cR_len xs
  obtain ⟨N, hN⟩ : ∃ N : Nat, cN xs = N := ⟨(cN xs).toNat, by omega⟩
  generalize hes : pI xs = ES
  unfold pI at hes
  have hS : pS xs = sF N (cR xs) [] := by unfold pS; rw [hN, Int.toNat_natCast]
  rw [hN] at K0 hbd
  generalize hT0 : pS xs = T at *
  have hTl := sF_len N (cR xs) []
  have hTs := sF_small N (cR xs) [] (fun t ht => by simp at ht)
  rw [← hS] at hTl hTs
  simp only [List.length_nil] at hTl
  have HS := Lib.hid hS.symm
  have HTL : Hid (T.1.length ≤ 3000 ∧ T.2.length ≤ 3000) := Lib.hid (by omega)
  have HTS := Lib.hid hTs
  have HES := Lib.hid hes
  have hN3 : N ≤ 3000 := by omega
  generalize cR xs = x1 at *
  have hlt := h.book.lt
  clear h hbd hcl hN hes hS hT0 hTl hTs
  go_enter Tryz.func34, Tryz.ntmps34
  go_wp2_with fail
  refine K0.out.mono ?_
  rintro e w1 ⟨rfl, h1, ho1⟩
  have H1 := Lib.hid h1
  have HO1 : Hid (Only (BookP b m g) w w1) := Lib.hid (ho1.mono fun i hi => .inl hi)
  clear h1 ho1
  go_wp2
  go_loopw [6] (fun i wr => ∃ (k : Nat) (q : List Int) (tk : List ByteArray) (gr : Option Nat), i = .int .i64 k ∧ k ≤ N ∧ Hid (sF (N - k) q tk = T) ∧ tk.length ≤ k ∧ RpAt w0 wr b m gr q tk ∧ NewG w g gr ∧ Only (BookP b m g) w wr) (fun i _ => N - (intOf i).toNat)
  case atStart => exact ⟨0, x1, [], g, rfl, Nat.zero_le _, HS, by simp, H1.out, NewG.same _ _, HO1.out⟩
  case round =>
    obtain ⟨k, q, tk, gr, rfl, hk, HQ, htk, hr, hng, hon⟩ := hrel
    have HR := Lib.hid hr
    have HNG := Lib.hid hng
    have HON := Lib.hid hon
    clear hr hng hon
    by_cases hkn : k < N
    · have hq := HQ.out
      rw [show N - k = (N - (k + 1)) + 1 by omega] at hq
      unfold sF at hq
      have HQ2 := Lib.hid hq
      have K1 := Lib.hid (KT.out gr q tk wr.drew (HR.out.keep ((Below.refl _ _).drew)))
      have hts := stxt_small q
      generalize stxt q = t at *
      generalize tR q = q1 at *
      have k7 : (k : Int) < (N : Int) := by omega
      have hal := addT_length tk t
      clear hq
      go_wp2
      first | (go_region_with (first
        | (go_at_call 62; refine K1.out.mono ?_; rintro e w3 ⟨rfl, h3, ho3⟩)
        | (go_at_call 61; refine (KP.out gr tk t _ h3.book (by omega) (by omega)).mono ?_; rintro e w4 ⟨⟨rfl, g4, h4, hn4, ho4⟩, hsm4⟩))) | fail
      all_goals
        have H4 := Lib.hid (h3.placed h4 hsm4)
        have HO3 : Hid (Only (BookP b m g) w w3) := Lib.hid ((HON.out.trans (Only.below ((Below.refl _ _).drew))).trans (ho3.mono fun i hi => .inl hi))
        have HO4 := Lib.hid (HO3.out.then HNG.out ho4)
        have HN4 := Lib.hid (HNG.out.trans HO3.out.size hn4)
        clear h3 ho3 h4 hn4 ho4 hsm4
        go_wp2
        go_roundw
        case rel => exact ⟨k + 1, q1, addT tk t, g4, by go_num, by omega, HQ2, by omega, H4.out, HN4.out, HO4.out⟩
        case measure => simp [intOf]; omega
    · obtain rfl : k = N := by omega
      have hq := HQ.out
      rw [Nat.sub_self] at hq
      have hq2 : (q, tk) = T := hq
      have hts1 := HTS.out
      have hlq := HTL.out
      have hes := HES.out
      rw [← hq2] at hts1 hlq hes
      have hbd2 := cN_bd q
      have hcl2 := cR_len q
      obtain ⟨M, hM⟩ : ∃ M : Nat, cN q = M := ⟨(cN q).toNat, by omega⟩
      have KC2 := Lib.hid (KC.out gr q tk wr HR.out)
      rw [hM] at KC2 hbd2
      simp only [hM, Int.toNat_natCast] at hes
      simp only at hts1 hlq
      have hM3 : M ≤ 3000 := by omega
      have hr3 : (cR q).length ≤ 3000 := by omega
      have HES2 := Lib.hid hes
      have HTS2 := Lib.hid hts1
      have hge : w.heap.size ≤ wr.heap.size := HON.out.size
      generalize cR q = q2 at *
      clear hq hq2 hts1 hes hM hbd2 hcl2
      go_wp2_with fail
      refine KC2.out.mono ?_
      rintro e wE ⟨rfl, h1, ho1⟩
      have HRE := Lib.hid h1
      have HOE : Hid (Only (BookP b m g) w wE) := Lib.hid (HON.out.trans (ho1.mono fun i hi => .inl hi))
      have hlE := h1.book.lt
      have KI := Lib.hid (fun (y : List Int) (W : World) (hh : RpAt w0 W b m gr y tk) (hy : y.length ≤ 3000) => pitem_any w0 sa hs b m gr y tk W hh hy HTS2.out)
      unfold ItP at KI
      have hgeE : w.heap.size ≤ wE.heap.size := HOE.out.size
      clear h1 ho1
      go_wp2
      go_loopw [3, 17] (fun v i wz => ∃ (j : Nat) (y : List Int) (es : List It) (A : Nat → Option Addr) (N C : Nat → Nat) (a : Option Addr) (c : Nat), i = .int .i64 j ∧ j ≤ M ∧ v = .slice a j c ∧ Hid ((iF tk (M - j) y es).2 = ES) ∧ y.length ≤ 3000 ∧ PSt w0 wE wz b m gr y tk ∧ GrowIts wz wE.heap.size (.slice a j c) j es A N C ∧ (∀ i, ReadIt (es.getD i dIt))) (fun _ i _ => M - (intOf i).toNat)
      case atStart => exact ⟨0, q2, [], _, _, _, none, 0, rfl, Nat.zero_le _, rfl, HES2, hr3, ⟨HRE.out, Only.refl _⟩, growNil _ _, fun i => by simpa using dIt_read⟩
      case round =>
        obtain ⟨j, y, es, A, NN, C, a', c', rfl, hj, rfl, HY, hy3, hS, hG, hrd⟩ := hrel
        have SS := Lib.hid hS
        have GG := Lib.hid hG
        have RD := Lib.hid hrd
        clear hS hG hrd
        by_cases hjm : j < M
        · have hq := HY.out
          rw [show M - j = (M - (j + 1)) + 1 by omega] at hq
          unfold iF at hq
          have HY2 := Lib.hid hq
          have K1 := Lib.hid (KI.out y _ SS.out.rp hy3)
          have HRI := Lib.hid (iN_read HTS2.out y hy3)
          have hle := iR_len tk y
          generalize iN tk y = z at *
          generalize iR tk y = y1 at *
          obtain ⟨yd, yt, ys, yn, ya⟩ := z
          dsimp only at K1
          have k7 : (j : Int) < (M : Int) := by omega
          clear hq
          go_wp2_with fail
          refine K1.out.mono ?_
          rintro e w3 ⟨a6, n6, c6, rfl, ho6, hnil6, s6⟩
          have O6 := Lib.hid ho6
          have NIL6 := Lib.hid hnil6
          have S6 := Lib.hid s6
          have OR := Lib.hid (rowOnly GG.out.row S6.out.on (fun k hk e => by have := (GG.out.row.lt k hk).1; omega))
          have hge1 : wE.heap.size ≤ w3.heap.size := Nat.le_trans SS.out.on.size S6.out.on.size
          clear ho6 hnil6 s6
          go_wp2_with (at_builtin; refine wpList_append_own_at _ rfl _ _ 24 rfl wE.heap.size 68 i0 (.agg #[.int .i64 0, .string ByteArray.empty, .string ByteArray.empty, .string ByteArray.empty, .slice none 0 0]) 5 80 Tryz.underlying24 hi hz0 hi1 hz2 rfl (by decide) _ j _ rfl (OR.out.alloc _) ⟨w3.heap.size, 0, none⟩ 1 1 [.int .i64 yd, .string yt, .string ys, .string yn, .slice a6 n6 c6] rfl rfl ?c1 ?c2 ?c3 ?c4 ?c5 ?_)
          case c1 => exact fun j u hj => itCells w3 _ _ _ _ _ j u hj
          case c2 => intro v hv; simp at hv; rcases hv with rfl | rfl | rfl | rfl | rfl <;> rfl
          case c3 => unfold maxLen; omega
          case c4 => omega
          case c5 => simp; omega
          intro v' w4 hown' hgrow _ hat
          obtain ⟨a8, c8, rfl⟩ := owns_slice hown'
          have hb2 := below1 w3 (.cells #[.int .i64 yd, .string yt, .string ys, .string yn, .slice a6 n6 c6] 68)
          have hatt := O6.out.only (Only.below (P := fun _ => False) hb2) fun _ _ _ h => h
          have G8 := Lib.hid (GG.out.snocO (P := fun i => i = b) (x := ⟨yd, yt, ys, yn, ya⟩) (S6.out.on.trans (Only.below hb2)) (fun i hi e => by omega)
            ⟨hatt.ats, hatt.own.imp id fun ⟨q, g1, g2, g3, g4⟩ => ⟨q, g1, g2, by have := hb2.size; omega, g4⟩⟩ NIL6.out SS.out.on.size hown' hgrow (hat.imp id fun e => ⟨w3.heap.size + 1, by simpa using e, by simp⟩))
          have S8 := Lib.hid (((show PSt w0 wE w3 b m gr y1 tk from ⟨S6.out.rp, SS.out.on.trans S6.out.on⟩).below hb2).far HRE.out hgrow (fun g hg => (OR.out.lt g hg).1))
          have RD8 := Lib.hid (reads_snoc RD.out HRI.out)
          clear hown' hgrow hat hatt hb2
          go_wp2
          go_roundw
          case rel => exact ⟨j + 1, y1, es ++ [⟨yd, yt, ys, yn, ya⟩], _, _, _, a8, c8, by go_num, by omega, rfl, HY2, by omega, S8.out, G8.out, RD8.out⟩
          case measure => simp [intOf]; omega
        · obtain rfl : j = M := by omega
          have hq := HY.out
          rw [Nat.sub_self] at hq
          have HEq : Hid (es = ES) := Lib.hid hq
          have OI := Lib.hid (GG.out.own (by omega) (fun i hi => by have := RD.out i; exact ⟨⟨by have := this.depth; omega, this.depth.2⟩, ⟨by have := this.sizes; omega, by have := this.sizes; omega, by have := this.sizes; omega⟩⟩))
          clear hq
          go_wp2
          go_ret
          exact ⟨a', j, c', gr, y, tk, _, rfl, by rw [← HEq.out]; exact OI.out, hgeE, fun i hi => HRE.out.book.inside hi, SS.out.rp, HNG.out, HOE.out.trans (SS.out.on.mono fun i hi => .inl hi)⟩
end Go.Proofs.YtbfjhjkllaceaaaGreatDoor

/- The program's numbers of attributes. -/
namespace Go.Proofs.YtbfjhjkllaceaaaGreatDoor
open Go.ChangeShapes Go.WideShapes Go.ChangeAt Go.RowKit
set_option linter.unusedVariables false

/-- what stands for attributes, for an item, for items behind the strings -/
def numAt (F : List ByteArray) (a : At) : List Int := [hasIx F a.name, hasIx F a.value]
def numAts (F : List ByteArray) (l : List At) : List Int := (l.length : Int) :: l.flatMap (numAt F)
def numIt (F : List ByteArray) (x : It) : List Int := x.depth :: (if x.name.toList.isEmpty then [0, hasIx F x.text] else [1, hasIx F x.space, hasIx F x.name] ++ numAts F x.attrs)
def numIts (F : List ByteArray) (l : List It) : List Int := (l.length : Int) :: l.flatMap (numIt F)
/-- F has all that o has, where o has it -/
def Ext (o F : List ByteArray) : Prop := ∃ r, F = o ++ r
theorem Ext.refl (o : List ByteArray) : Ext o o := ⟨[], by simp⟩
theorem Ext.trans {a b c : List ByteArray} (h : Ext a b) (k : Ext b c) : Ext a c := by
  obtain ⟨r, rfl⟩ := h
  obtain ⟨s, rfl⟩ := k
  exact ⟨r ++ s, by simp⟩
theorem Ext.add (o : List ByteArray) (t : ByteArray) : Ext o (addT o t) := by
  unfold addT
  split
  · exact Ext.refl _
  · exact ⟨[t], rfl⟩
theorem Ext.ats (l : List At) : ∀ o, Ext o (strsAts o l) := by
  induction l with
  | nil => intro o; exact Ext.refl _
  | cons a l ih =>
    intro o
    have h := ih (addT (addT o a.name) a.value)
    unfold strsAts at h ⊢
    rw [List.foldl_cons]
    exact (Ext.add o a.name).trans ((Ext.add _ a.value).trans h)
theorem Ext.it (o : List ByteArray) (x : It) : Ext o (strsIt o x) := by
  unfold strsIt
  split
  · exact Ext.add _ _
  · exact (Ext.add o x.space).trans ((Ext.add _ x.name).trans (Ext.ats _ _))
theorem Ext.its (l : List It) : ∀ o, Ext o (l.foldl strsIt o) := by
  induction l with
  | nil => intro o; exact Ext.refl _
  | cons a l ih =>
    intro o
    rw [List.foldl_cons]
    exact (Ext.it o a).trans (ih _)
theorem Ext.ats_take (o : List ByteArray) (l : List At) (k : Nat) : Ext (strsAts o (l.take k)) (strsAts o l) := by
  have h := Ext.ats (l.drop k) (strsAts o (l.take k))
  unfold strsAts at h ⊢
  rw [← List.foldl_append, List.take_append_drop] at h
  exact h
theorem Ext.its_take (l : List It) (k : Nat) : Ext (strsOf (l.take k)) (strsOf l) := by
  have h := Ext.its (l.drop k) (strsOf (l.take k))
  unfold strsOf at h ⊢
  rw [← List.foldl_append, List.take_append_drop] at h
  exact h
theorem addT_has (o : List ByteArray) (t : ByteArray) : 0 ≤ hasIx (addT o t) t := has_iff.2 (mem_addT.2 (.inr rfl))
/-- the place of what was met stays -/
theorem Ext.place {o F : List ByteArray} {t : ByteArray} (h : Ext (addT o t) F) : hasIx (addT o t) t = hasIx F t := by
  obtain ⟨r, rfl⟩ := h
  exact (hasIx_old r (addT_has o t)).symm
theorem numAts_succ (F : List ByteArray) (l : List At) (k : Nat) (h : k < l.length) : (l.take (k + 1)).flatMap (numAt F) = (l.take k).flatMap (numAt F) ++ [hasIx F (l.getD k dAt).name, hasIx F (l.getD k dAt).value] := by
  rw [List.take_succ_eq_append_getElem h, List.flatMap_append, List.getD_eq_getElem?_getD, List.getElem?_eq_getElem h]
  simp [numAt]
theorem numAt_len (F : List ByteArray) (l : List At) : (l.flatMap (numAt F)).length = 2 * l.length := by
  induction l with
  | nil => simp
  | cons a t ih =>
    rw [List.flatMap_cons, List.length_append, ih, List.length_cons]
    simp [numAt]
    omega

theorem numInfo : (Tryz.prog.info? 2).map (fun i => (i.zero, i.size, i.bytes)) = some (some (.int .i64 0), 1, 8) := by kernel_rfl
/-- a row of numbers that shares no block with the book -/
def Apart (v : Value) (b m : Nat) (g : Option Nat) : Prop := ∀ k, v.ownBlock = some k → ¬ BookP b m g k
/-- numbers are handed back, and the book has grown -/
def NumsRes (K : Nat → Prop) (w0 w : World) (b m : Nat) (g : Option Nat) (o : List ByteArray) (ns : List Int) (e : Ending) (w' : World) : Prop :=
  ∃ a n c g', e = .returned (.slice a n c) ∧ w'.ownsRow w.heap.size 2 1 (.slice a n c) n (ns.map (Value.int .i64)) ∧ Apart (.slice a n c) b m g' ∧ BookAt K w0 w' b m g' o ∧ NewG w g g' ∧ Only (BookP b m g) w w'
theorem cells2 (W : World) (T : TypeId) (u v : Value) (j : Nat) (z : Value) (hj : [u, v][j]? = some z) : ((W.alloc (.cells #[u, v] T))).cell? (Addr.add ⟨W.heap.size, 0, none⟩ j) = some z := by
  match j, hj with
  | 0, hj => simp at hj; subst hj; simp [Addr.add]
  | 1, hj => simp at hj; subst hj; simp [Addr.add]
theorem BookAt.notNew {K : Nat → Prop} {w0 w : World} {b m : Nat} {g : Option Nat} {ts : List ByteArray} (h : BookAt K w0 w b m g ts) {i : Nat} (hi : w.heap.size ≤ i) : ¬ BookP b m g i := by
  rintro (rfl | rfl | e)
  · have := h.lt; omega
  · obtain ⟨D, hm, _⟩ := h.map
    have := hm.lt
    omega
  · obtain ⟨a, n, c, h1, h2, h3⟩ := h.c0
    have := (h2.lt i (by rw [h3, ← e])).2
    omega
theorem NewG.notP {w : World} {b m i : Nat} {g g' : Option Nat} (h : NewG w g g') (hi : i < w.heap.size) (hn : ¬ BookP b m g i) : ¬ BookP b m g' i := by
  rcases h with rfl | ⟨k, rfl, hk⟩
  · exact hn
  · rintro (rfl | rfl | e)
    · exact hn (.inl rfl)
    · exact hn (.inr (.inl rfl))
    · simp only [Option.some.injEq] at e
      omega
theorem Only.two {P : Nat → Prop} {w w' : World} {p q : Addr} {u v : Value} (h : Only P w w') (hp : ¬ P p.block) (hq : ¬ P q.block) (h1 : w.cell? p = some u ∧ w.cell? q = some v) : w'.cell? p = some u ∧ w'.cell? q = some v :=
  ⟨(h.cell (World.block_lt_of_cell? w _ h1.1) hp).trans h1.1, (h.cell (World.block_lt_of_cell? w _ h1.2) hq).trans h1.2⟩
theorem two_alloc {w : World} {o : Obj} {p q : Addr} {u v : Value} (h : w.cell? p = some u ∧ w.cell? q = some v) : (w.alloc o).cell? p = some u ∧ (w.alloc o).cell? q = some v :=
  ⟨((below1 w o).cell (World.block_lt_of_cell? w _ h.1)).trans h.1, ((below1 w o).cell (World.block_lt_of_cell? w _ h.2)).trans h.2⟩
theorem Apart.newG {w : World} {b m : Nat} {g g' : Option Nat} {v : Value} (h : Apart v b m g) (hn : NewG w g g') (hlt : ∀ k, v.ownBlock = some k → k < w.heap.size) : Apart v b m g' := fun k hk => hn.notP (hlt k hk) (h k hk)
theorem BookAt.far {K : Nat → Prop} {w0 w w' : World} {b m : Nat} {g : Option Nat} {ts : List ByteArray} {v : Value} (h : BookAt K w0 w b m g ts) (hg : w.grownBy w' v.ownBlock) (ha : Apart v b m g) (hr : ∀ k, v.ownBlock = some k → w0.heap.size ≤ k) : BookAt K w0 w' b m g ts :=
  h.only (P := fun i => some i = v.ownBlock) (Only.grownP hg fun k hk => hk.symm) (fun i hi e => ha i e.symm hi) (fun i e => .inr (hr i e.symm))
theorem Apart.grown {w : World} {b m : Nat} {g : Option Nat} {v v' : Value} (h : Apart v b m g) (hb : ∀ i, w.heap.size ≤ i → ¬ BookP b m g i) (hat : v'.ownBlock = v.ownBlock ∨ v'.ownBlock = some w.heap.size) : Apart v' b m g := by
  intro k hk
  rcases hat with e | e
  · exact h k (e ▸ hk)
  · rw [e] at hk
    simp only [Option.some.injEq] at hk
    exact hb k (by omega)

set_option maxRecDepth 100000 in
set_option maxHeartbeats 3200000 in
theorem numbersOfAttrs_any (K : Nat → Prop) (w0 : World) (b m : Nat) (g : Option Nat) (o F : List ByteArray) (a : Option Addr) (n c : Nat) (l : List At) (w : World) (h : BookAt K w0 w b m g o) (hl : AtsAt w0 a n c l) (hfar : ∀ x, a = some x → n ≠ 0 → ¬ K x.block) (h5 : n ≤ 5) (ho : o.length ≤ 50000) (hF : Ext (strsAts o l) F) :
    Calls Tryz.prog 65 #[.pointer (some ⟨b, 0, none⟩), .slice a n c] w (NumsRes K w0 w b m g (strsAts o l) (numAts F l)) := by
  obtain ⟨i0, hi, hz0, hz1, hz2⟩ := info_parts numInfo
  unfold NumsRes
  have KP := Lib.hid (fun (g : Option Nat) (ts : List ByteArray) (t : ByteArray) (W : World) (h : BookAt K w0 W b m g ts) (hl : ts.length ≤ 100000) (ht : t.size ≤ 9223372036854775807) => placeOf_any K w0 b m g ts t W h hl ht)
  unfold PlaceRes at KP
  have HAT := Lib.hid hl
  have HLN := Lib.hid hl.len
  have HF := Lib.hid hF
  have HFAR := Lib.hid hfar
  have HB := Lib.hid h
  have hlit := Lib.hid (lit_owns w 2 .i64 [(n : Int)] 1 (by simp) (by decide))
  clear h hl hF hfar
  go_enter Tryz.func65, Tryz.ntmps65
  go_wp2
  go_loopw [5, 13] (fun v i wr => ∃ (k : Nat) (x : Option Addr) (q : Nat) (gr : Option Nat) (ok : List ByteArray), i = .int .i64 k ∧ k ≤ n ∧ v = .slice x (1 + 2 * k) q ∧ Hid (ok = strsAts o (l.take k)) ∧ ok.length ≤ 50000 + 2 * k ∧ wr.ownsRow w.heap.size 2 1 (.slice x (1 + 2 * k) q) (1 + 2 * k) (((n : Int) :: (l.take k).flatMap (numAt F)).map (Value.int .i64)) ∧ Apart (.slice x (1 + 2 * k) q) b m gr ∧ BookAt K w0 wr b m gr ok ∧ NewG w g gr ∧ Only (BookP b m g) w wr) (fun _ i _ => n - (intOf i).toNat)
  case atStart => exact ⟨0, _, _, g, o, rfl, Nat.zero_le _, rfl, Lib.hid (by simp [strsAts]), by omega, by simpa using hlit.out, fun k hk => HB.out.notNew (by simp [Value.ownBlock] at hk; omega), HB.out.keep (below1 w _), NewG.same _ _, Only.below (below1 w _)⟩
  case round =>
    obtain ⟨k, x, q, gr, ok, rfl, hk, rfl, HOK, hol, hrow, hap, hbk, hng, hon⟩ := hrel
    have HROW := Lib.hid hrow
    have HAP := Lib.hid hap
    have HBK := Lib.hid hbk
    have HNG := Lib.hid hng
    have HON := Lib.hid hon
    clear hrow hap hbk hng hon
    by_cases hlt : k < n
    · obtain ⟨b7, of7, rfl, hb7, hc7⟩ := HAT.out.row.resolve_left (by omega)
      have hs := strsAts_succ o l k (by rw [HLN.out]; exact hlt)
      have hns := numAts_succ F l k (by rw [HLN.out]; exact hlt)
      have hex := (Ext.ats_take o l (k + 1)).trans HF.out
      rw [hs, ← HOK.out] at hex
      have HSUC : Hid (addT (addT ok (l.getD k dAt).name) (l.getD k dAt).value = strsAts o (l.take (k + 1))) := Lib.hid (by rw [hs, ← HOK.out])
      have w7 := (hc7 k hlt).1
      have w8 := (hc7 k hlt).2
      have hsz := HAT.out.size k
      generalize l.getD k dAt = z at hns hex HSUC w7 w8 hsz
      obtain ⟨zn, zv⟩ := z
      dsimp only at hns hex HSUC w7 w8 hsz
      have HNS := Lib.hid hns
      have hp1 : hasIx (addT ok zn) zn = hasIx F zn := ((Ext.add _ zv).trans hex).place
      have hp2 : hasIx (addT (addT ok zn) zv) zv = hasIx F zv := hex.place
      have hal1 := addT_length ok zn
      have hal2 := addT_length (addT ok zn) zv
      have hnk := HFAR.out _ rfl (by omega)
      have d7 := (HBK.out.on.cell (p := ⟨b7, of7 + k * 2, none⟩) hb7 hnk).trans w7
      have d8 := (HBK.out.on.cell (p := ⟨b7, of7 + k * 2 + 1, none⟩) hb7 hnk).trans w8
      clear hnk
      have k7 : (k : Int) < (n : Int) := by omega
      have HP1 := Lib.hid hp1
      have HP2 := Lib.hid hp2
      clear hc7 hs hns hex hp1 hp2 w7 w8
      go_wp2
      have hlw : wr.heap.size < (wr.alloc (.cells #[.string zn, .string zv] 73)).drew.heap.size := by simp
      have hnp := HBK.out.notNew (Nat.le_refl _)
      have HNP := Lib.hid hnp
      have HNR : Hid (some wr.heap.size ≠ (Value.slice x (1 + 2 * k) q).ownBlock) := Lib.hid (fun e => by have := (HROW.out.lt _ e.symm).2; omega)
      have hS4 : (wr.alloc (.cells #[.string zn, .string zv] 73)).drew.cell? ⟨wr.heap.size, 0, none⟩ = some (.string zn) ∧ (wr.alloc (.cells #[.string zn, .string zv] 73)).drew.cell? ⟨wr.heap.size, 1, none⟩ = some (.string zv) := ⟨by simp, by simp⟩
      have HB4 := Lib.hid ((HBK.out.keep (below1 wr (.cells #[.string zn, .string zv] 73))).keep ((Below.refl _ _).drew))
      have HR4 := Lib.hid (ownsDrew (owns_below HROW.out (below1 wr (.cells #[.string zn, .string zv] 73))))
      have HO4 : Hid (Only (BookP b m g) w (wr.alloc (.cells #[.string zn, .string zv] 73)).drew) := Lib.hid ((HON.out.trans (Only.below (below1 wr _))).trans (Only.below ((Below.refl _ _).drew)))
      have hws : w.heap.size ≤ wr.heap.size := HON.out.size
      clear hnp
      first | (go_region_held3 (fun W => W.cell? ⟨wr.heap.size, 0, none⟩ = some (.string zn) ∧ W.cell? ⟨wr.heap.size, 1, none⟩ = some (.string zv)) (first | assumption | exact two_alloc (by assumption))
        (first
          | (go_at_call 61; (with_reducible refine (KP.out gr ok zn _ HB4.out (by omega) hsz.1).mono ?_); rintro e w5 ⟨rfl, g5, hb5, hn5, ho5⟩; have hS5 := ho5.two HNP.out HNP.out hS4)
          | (go_at_call 61; (with_reducible refine (KP.out _ (addT ok zn) zv _ (by assumption) ?_ hsz.2).mono ?_); omega; rintro e w6 ⟨rfl, g6, hb6, hn6, ho6⟩; have hS6 := ho6.two (hn5.notP hlw HNP.out) (hn5.notP hlw HNP.out) hS5; have HAP5 := Lib.hid (HAP.out.newG hn5 (fun k hk => (HR4.out.lt k hk).2)); have HR5 := Lib.hid (rowOnly HR4.out ho5 HAP.out); have HR6 := Lib.hid (rowOnly HR5.out ho6 HAP5.out); have HAP6 := Lib.hid (HAP5.out.newG hn6 (fun k hk => (HR5.out.lt k hk).2)); have HWS6 := Lib.hid (Nat.le_trans HO4.out.size (Nat.le_trans ho5.size ho6.size)))
          | (refine step_own_at (by rfl) _ _ 58 rfl 2 i0 (.int .i64 0) 1 8 Tryz.underlying58 hi hz0 hz1 hz2 rfl (by decide) w.heap.size _ (1 + 2 * k) _ (by rfl) (HR6.out.alloc _) ⟨w6.heap.size, 0, none⟩ 2 2 (List.map (Value.int .i64) [hasIx (addT ok zn) zn, hasIx (addT (addT ok zn) zv) zv]) (by rfl) rfl (cells2 w6 _ _ _) (ints_one _ _) (by unfold maxLen; omega) (by omega) (by have := HWS6.out; simp; omega) ?_; intro v' w7 hown' hgr hat; obtain ⟨a3, c3, rfl⟩ := owns_slice hown'; have hS7 := And.intro (hgr.cell (two_alloc hS6).1 HNR.out) (hgr.cell (two_alloc hS6).2 HNR.out)))) | fail "NOHELD"
      have hrow7 : w7.ownsRow w.heap.size 2 1 (.slice a3 (1 + 2 * k + 2) c3) (1 + 2 * k + 2) (((n : Int) :: (l.take (k + 1)).flatMap (numAt F)).map (Value.int .i64)) := by
        rw [HNS.out, ← HP1.out, ← HP2.out, ← List.cons_append, List.map_append]
        exact hown'
      have HR7 := Lib.hid hrow7
      have hw0 : w0.heap.size ≤ w.heap.size := HB.out.on.size
      have HB7 := Lib.hid ((hb6.keep (below1 w6 _)).far hgr HAP6.out (fun k hk => Nat.le_trans hw0 (HR6.out.lt k hk).1))
      have HA7 := Lib.hid (HAP6.out.grown (fun i hi => (hb6.keep (below1 w6 _)).notNew hi) hat)
      have HN5 := Lib.hid (HNG.out.trans HO4.out.size hn5)
      have HN7 := Lib.hid (HN5.out.trans (Nat.le_trans HO4.out.size ho5.size) hn6)
      have HO7 := Lib.hid ((((HO4.out.then HNG.out ho5).then HN5.out ho6).trans (Only.below (below1 w6 _))).far hgr (fun k hk => (HR6.out.lt k hk).1))
      have hol7 : (addT (addT ok zn) zv).length ≤ 50000 + 2 * (k + 1) := by omega
      clear hb5 hb6 hn5 hn6 ho5 ho6 hgr hown' hat hrow7 hS4 hS5 hS6 hS7
      go_wp2
      go_roundw
      case rel => exact ⟨k + 1, a3, c3, g6, _, by go_num, by omega, rfl, HSUC, hol7, HR7.out, HA7.out, HB7.out, HN7.out, HO7.out⟩
      case measure => simp [intOf]; omega
    · obtain rfl : k = n := by omega
      have hok := HOK.out
      rw [← HLN.out, List.take_length] at hok
      have HOK2 := Lib.hid hok
      have hrow := HROW.out
      rw [show l.take k = l by rw [← HLN.out, List.take_length]] at hrow
      have HR7 := Lib.hid hrow
      clear hok hrow
      go_wp2
      go_ret
      refine ⟨x, 1 + 2 * k, q, gr, rfl, ?_, HAP.out, by rw [← HOK2.out]; exact HBK.out, HNG.out, HON.out⟩
      unfold numAts
      rw [HLN.out]
      exact HR7.out
end Go.Proofs.YtbfjhjkllaceaaaGreatDoor
