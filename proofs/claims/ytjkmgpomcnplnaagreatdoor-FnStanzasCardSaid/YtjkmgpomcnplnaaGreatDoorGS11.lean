/- spec.l7Bent: a presence is drawn, and bent. -/
import Derived.Test.YtjkmgpomcnplnaaGreatDoorGS9
import Derived.Test.YtjkmgpomcnplnaaGreatDoorGS10
import Derived.Test.YtjkmgpomcnplnaaGreatDoorGS2
namespace Go.Proofs.YtjkmgpomcnplnaaGreatDoor
open Go.ChangeShapes Go.WideShapes Go.ChangeAt Go.RowKit
set_option linter.unusedVariables false
set_option linter.unusedSimpArgs false
def PrBent (w : World) (b : Nat) (a : Option Addr) (n c : Nat) (xs : List Int) (k : Nat) (en : Ending) (w' : World) : Prop :=
  ∃ (y : Pr) (x : Addr) (m q : Nat) (A : Nat → Option Addr) (N C : Nat → Nat) (k' : Nat), en = .returned (.agg #[.int .i64 y.kind, .string y.sender, .string y.goal, .int .i64 y.shown, .string y.status, .int .i64 y.prio, .slice (some x) m q]) ∧ GrowIts w' w.heap.size (.slice (some x) m q) m y.more A N C ∧ m ≤ 30 ∧ PrD y ∧ k' ≤ k + 3100 ∧ Src w' b a n c xs k' ∧ w.grownBy w' (some b)
theorem D7.regrow {w V W W' : World} {b : Nat} {a : Option Addr} {n c : Nat} {xs : List Int} {k x : Nat} {v0 v1 v2 v3 v4 v5 v6 : Value} (h : D7 w V W b a n c xs k x v0 v1 v2 v3 v4 v5 v6) {row : Option Nat} (hg : W.grownBy W' row) (hr : ∀ g, row = some g → w.heap.size < g ∧ g ≠ x) : D7 w W' W' b a n c xs k x v0 v1 v2 v3 v4 v5 v6 := by
  have hb := h.hb
  exact ⟨hb, h.hx, h.res.grown hg (fun e => by have := hr _ e.symm; omega), h.box.grown hg (fun e => (hr _ e.symm).2 rfl), h.src.grown hg (fun j e => by have := hr _ e; omega), grown_mix h.gr hg (fun g e => by have := hr _ e; omega), Only.refl W'⟩
theorem GrowIts.onlyX {w w' : World} {P : Nat → Prop} {B : Nat} {v : Value} {n : Nat} {l : List It} {A : Nat → Option Addr} {N C : Nat → Nat} (h : GrowIts w B v n l A N C) (ho : Only P w w') (h1 : ∀ g, v.ownBlock = some g → ¬ P g) (h2 : ∀ i, i < l.length → ∀ y, A i = some y → N i ≠ 0 → ¬ P y.block) : GrowIts w' B v n l A N C := by
  refine ⟨owns_only h.row ho h1, fun i hi => ⟨?_, (h.ats i hi).2⟩, h.apart, h.each⟩
  have h3 := (h.ats i hi).1.only ho fun x hx hne => h2 i hi x hx hne
  exact ⟨h3.ats, h3.own.imp id fun ⟨b, g1, g2, g3, g4⟩ => ⟨b, g1, g2, by have := ho.size; omega, g4⟩⟩
theorem step_zeros {P : Program} {ops : Array Oper} {o : Oper} {a : Act} {w : World} {K : Act → World → Prop} {Q : Exit → Act → World → Prop} {E : Prop} (hw : Region.wanted o (yielded ops a.tmps) = true) (s x : Operand) (t tn : TypeId)
    (ho : o.op = .call { callee := .builtin .append, args := #[s, x], argTypes := #[t, tn] })
    (base : Nat) (e : TypeId) (i : TypeInfo) (z : Value) (size bytes : Nat) (kq kn : IntKind) (ht : P.underlying t = some (.slice e)) (htn : P.underlying tn = some (.int kn)) (hi : P.info? e = some i) (hz : i.zero = some z)
    (hsize : i.size = size) (hby : i.bytes = bytes) (hzs : z.cells.size = size) (hsz : 0 < size)
    (v : Value) (n : Nat) (xs : List Value) (hs : a.eval s = v) (hown : w.ownsRow base e size v n xs) (hn0 : 0 < n ∨ ∃ y c, v = .slice (some y) n c)
    (k : Nat) (hx : a.eval x = .int kq k) (h0 : 0 < k) (h1 : ∀ u ∈ (Builtin.zeroCells z.cells k).toList, u.oneCell' = true)
    (h63 : n + k ≤ maxLen) (hbytes : (n + k) * bytes ≤ 140737488355328) (hbase : base ≤ w.heap.size)
    (h : ∀ v' w', w'.ownsRow base e size v' (n + k) (xs ++ (Builtin.zeroCells z.cells k).toList) → w.grownBy w' v.ownBlock → (v'.ownBlock = v.ownBlock ∨ v'.ownBlock = some w.heap.size) → K (a.put o.dst v') w') :
    if Region.wanted o (yielded ops a.tmps) = true then Oper.wp P o a w K Q else E := by
  rw [if_pos hw]
  obtain ⟨v', w', hr, h2, h3, h4⟩ := run_append_own_zeros (P := P) w base t tn o.type e i z size bytes kq kn ht htn hi hz hsize hby hzs hsz v n xs hown hn0 k h0 h1 h63 hbytes hbase
  unfold Oper.wp execOp
  simp only [ho, resolve, invoke, builtin, Sem.run_bind, Sem.run_pure, Result.andThen_ok, List.map_toArray, List.map_cons, List.map_nil, hs, hx, hr]
  exact h v' w' h2 h3 h4
theorem drawn_more {l : List It} (h : ∀ i, DrawnIt (l.getD i dIt)) (k : Nat) : ∀ i, DrawnIt ((l ++ List.replicate k dIt).getD i dIt) := drawn_append h (fun i => by rw [List.getD_eq_getElem?_getD, List.getElem?_replicate]; split <;> exact dIt_drawn)
set_option maxRecDepth 100000 in
set_option maxHeartbeats 2000000 in
theorem l7Bent_any (b : Nat) (a : Option Addr) (n c : Nat) (xs : List Int) (k : Nat) (hk : k + 12000 < 1000000) (w : World) (h : Src w b a n c xs k) :
    Calls Tryz.prog 28 #[.pointer (some ⟨b, 0, none⟩)] w (PrBent w b a n c xs k) := by
  obtain ⟨i0, hi, hz0, hi1, hz2⟩ := info_parts itemInfo
  have hb0 := h.lt
  have hbA := below1 w (.cells #[.int .i64 0, .string ⟨#[]⟩, .string ⟨#[]⟩, .int .i64 0, .string ⟨#[]⟩, .int .i64 0, .slice none 0 0] 26)
  have XR := Lib.hid (X7.new w 26 (.int .i64 0) (.string ⟨#[]⟩) (.string ⟨#[]⟩) (.int .i64 0) (.string ⟨#[]⟩) (.int .i64 0) (.slice none 0 0))
  have KN := Lib.hid (fun (k : Nat) (m : Int) (hm0 : 1 ≤ m) (hm : m ≤ 1000000000) (hk : k < 1000000) (W : World) (h : Src W b a n c xs k) => l1Next_any b a n c xs k m hm0 hm hk W h)
  unfold NextRes at KN
  have KD := l7Draw_any b a n c xs k (by omega) _ (h.below hbA)
  unfold PrDrawn at KD
  have HG := Lib.hid (grown_of_below hbA (some b))
  have hsz0 : (w.alloc (.cells #[.int .i64 0, .string ⟨#[]⟩, .string ⟨#[]⟩, .int .i64 0, .string ⟨#[]⟩, .int .i64 0, .slice none 0 0] 26)).heap.size = w.heap.size + 1 := by simp
  clear h hbA
  go_enter Tryz.func28, Tryz.ntmps28
  go_wp2_with fail
  refine KD.mono ?_
  clear KD
  rintro e V ⟨⟨yk, yf, yt, ys, yu, yp, l⟩, x, m, q, A, N, C, k1, rfl, hG, hm8, hPD, hk1, hs1, hg1⟩
  rw [hsz0] at hG
  dsimp only at hG
  have GM := Lib.hid hG
  have hlm : l.length = m := hG.len
  obtain ⟨⟨pk1, pk2⟩, pf, pt, ⟨ps1, ps2⟩, pu, ⟨pp1, pp2⟩, pfew, pmore⟩ := hPD
  dsimp only at pk1 pk2 pf pt ps1 ps2 pu pp1 pp2 pfew pmore
  have HD5 := Lib.hid pmore
  have DI := Lib.hid (D7.init 26 (.int .i64 yk) (.string yf) (.string yt) (.int .i64 ys) (.string yu) (.int .i64 yp) (.slice (some x) m q) hb0 (XR.out.grown hg1 (by intro e; injection e with e; omega)) hs1 (grown_trans_row HG.out hg1))
  have hVw : w.heap.size < V.heap.size := by have := hg1.size; omega
  clear hG pmore hs1 hg1 XR HG pfew
  go_wp2_with fail
  generalize hW1 : V.alloc (.cells #[.int .i64 yk, .string yf, .string yt, .int .i64 ys, .string yu, .int .i64 yp, .slice (some x) m q] 26) = W1 at DI
  refine (KN.out k1 14 (by decide) (by decide) (by omega) _ DI.out.src).mono ?_
  rintro e W2 ⟨t, rfl, ht, hs, hg⟩
  have D2 := Lib.hid (DI.out.call hs hg)
  clear hs hg DI hW1
  have htn : (0 : Int) ≤ (t : Int) := by omega
  have hxs : V.heap.size < w.heap.size + 1 ∨ V.heap.size ≤ V.heap.size := .inr (Nat.le_refl _)
  obtain ⟨xp, hxp⟩ : ∃ xp, V.heap.size = xp := ⟨_, rfl⟩
  have hxs : xp < w.heap.size + 1 ∨ V.heap.size ≤ xp := .inr (by omega)
  rw [hxp] at D2 hVw
  try rw [hxp]
  generalize (t : Int) = tt at htn ⊢
  by_cases t0 : tt = 0
  · subst t0
    go_wp2_with fail
    have KP := l1Pick_any b a n c xs (k1 + 1) W2.heap.size 4 [-1, 7, 1, 3] rfl (by decide) (by decide) (by omega) _ (D2.out.src.alloc (.cells #[.int .i64 (-1), .int .i64 7, .int .i64 1, .int .i64 3] 2)) (lit_row W2 _ .i64 [-1, 7, 1, 3] 4 rfl (by decide)) (by have := D2.out.src.lt; omega)
    unfold PickRes at KP
    refine KP.mono ?_
    clear KP
    rintro e W3 ⟨d, rfl, hdm, hs, hg⟩
    have hd : -1 ≤ d ∧ d ≤ 7 := by
      simp only [List.mem_cons, List.not_mem_nil, or_false] at hdm
      omega
    obtain ⟨hd1, hd2⟩ := hd
    have D3 := Lib.hid ((D2.out.below (below1 W2 (.cells #[.int .i64 (-1), .int .i64 7, .int .i64 1, .int .i64 3] 2))).call hs hg)
    clear hs hg hdm D2
    have c0 := D3.out.box.c0
    have f0 := D3.out.box.fz 0 (by decide)
    have lx := D3.out.box.lt
    have D4 := Lib.hid (D3.out.set 0 (.int .i64 d) (by decide) ⟨rfl, rfl, rfl, rfl, rfl, rfl, rfl⟩)
    go_upto_region 17 with fail
    generalize W3.setCell ⟨xp, 0, none⟩ (.int .i64 d) = W4 at *
    clear c0 f0 lx
    obtain ⟨-, d0, d1, d2, d3, d4, d5, d6, -⟩ := D4.out.box
    obtain ⟨-, e0, e1, e2, e3, e4, e5, e6, -⟩ := D4.out.res
    have g0 := D4.out.res.fz 0 (by decide)
    have g1 := D4.out.res.fz 1 (by decide)
    have g2 := D4.out.res.fz 2 (by decide)
    have g3 := D4.out.res.fz 3 (by decide)
    have g4 := D4.out.res.fz 4 (by decide)
    have g5 := D4.out.res.fz 5 (by decide)
    have g6 := D4.out.res.fz 6 (by decide)
    obtain ⟨Zx, Zs, Zg, Zo⟩ := D4.out.done
    have z0 := Zx.c0
    have z1 := Zx.c1
    have z2 := Zx.c2
    have z3 := Zx.c3
    have z4 := Zx.c4
    have z5 := Zx.c5
    have z6 := Zx.c6
    have GI := Lib.hid (D7.its GM.out Zo hb0 (by omega) hxs)
    have ZS := Lib.hid Zs
    have ZG := Lib.hid Zg
    clear Zx Zo Zs Zg
    go_wp2
    refine bodyPost_ret (v := .agg #[.int .i64 d, .string yf, .string yt, .int .i64 ys, .string yu, .int .i64 yp, .slice (some x) m q]) (by simp [results, Tryz.results28, go_sem, z0, z1, z2, z3, z4, z5, z6, e0, e1, e2, e3, e4, e5, e6]) rfl (by unfold PrBent; exact ⟨⟨d, yf, yt, ys, yu, yp, l⟩, x, m, q, A, N, C, k1 + 1 + 1, rfl, GI.out, by omega, ⟨⟨by show -1000 ≤ (d : Int); omega, by show (d : Int) ≤ 1000; omega⟩, by show yf.size ≤ 61; omega, by show yt.size ≤ 61; omega, ⟨by show -1000 ≤ (ys : Int); omega, by show (ys : Int) ≤ 1000; omega⟩, by show yu.size ≤ 61; omega, ⟨by show -1000 ≤ (yp : Int); omega, by show (yp : Int) ≤ 1000; omega⟩, by show l.length ≤ 60; omega, HD5.out⟩, by omega, ZS.out, ZG.out⟩)
  by_cases t1 : tt = 1
  · subst t1
    go_wp2_with fail
    have KP := l1Pick_any b a n c xs (k1 + 1) W2.heap.size 3 [-1, 5, 2] rfl (by decide) (by decide) (by omega) _ (D2.out.src.alloc (.cells #[.int .i64 (-1), .int .i64 5, .int .i64 2] 2)) (lit_row W2 _ .i64 [-1, 5, 2] 3 rfl (by decide)) (by have := D2.out.src.lt; omega)
    unfold PickRes at KP
    refine KP.mono ?_
    clear KP
    rintro e W3 ⟨d, rfl, hdm, hs, hg⟩
    have hd : -1 ≤ d ∧ d ≤ 5 := by
      simp only [List.mem_cons, List.not_mem_nil, or_false] at hdm
      omega
    obtain ⟨hd1, hd2⟩ := hd
    have D3 := Lib.hid ((D2.out.below (below1 W2 (.cells #[.int .i64 (-1), .int .i64 5, .int .i64 2] 2))).call hs hg)
    clear hs hg hdm D2
    have c3 := D3.out.box.c3
    have f3 := D3.out.box.fz 3 (by decide)
    have lx := D3.out.box.lt
    have D4 := Lib.hid (D3.out.set 3 (.int .i64 d) (by decide) ⟨rfl, rfl, rfl, rfl, rfl, rfl, rfl⟩)
    go_upto_region 17 with fail
    generalize W3.setCell ⟨xp, 3, none⟩ (.int .i64 d) = W4 at *
    clear c3 f3 lx
    obtain ⟨-, d0, d1, d2, d3, d4, d5, d6, -⟩ := D4.out.box
    obtain ⟨-, e0, e1, e2, e3, e4, e5, e6, -⟩ := D4.out.res
    have g0 := D4.out.res.fz 0 (by decide)
    have g1 := D4.out.res.fz 1 (by decide)
    have g2 := D4.out.res.fz 2 (by decide)
    have g3 := D4.out.res.fz 3 (by decide)
    have g4 := D4.out.res.fz 4 (by decide)
    have g5 := D4.out.res.fz 5 (by decide)
    have g6 := D4.out.res.fz 6 (by decide)
    obtain ⟨Zx, Zs, Zg, Zo⟩ := D4.out.done
    have z0 := Zx.c0
    have z1 := Zx.c1
    have z2 := Zx.c2
    have z3 := Zx.c3
    have z4 := Zx.c4
    have z5 := Zx.c5
    have z6 := Zx.c6
    have GI := Lib.hid (D7.its GM.out Zo hb0 (by omega) hxs)
    have ZS := Lib.hid Zs
    have ZG := Lib.hid Zg
    clear Zx Zo Zs Zg
    go_wp2
    refine bodyPost_ret (v := .agg #[.int .i64 yk, .string yf, .string yt, .int .i64 d, .string yu, .int .i64 yp, .slice (some x) m q]) (by simp [results, Tryz.results28, go_sem, z0, z1, z2, z3, z4, z5, z6, e0, e1, e2, e3, e4, e5, e6]) rfl (by unfold PrBent; exact ⟨⟨yk, yf, yt, d, yu, yp, l⟩, x, m, q, A, N, C, k1 + 1 + 1, rfl, GI.out, by omega, ⟨⟨by show -1000 ≤ (yk : Int); omega, by show (yk : Int) ≤ 1000; omega⟩, by show yf.size ≤ 61; omega, by show yt.size ≤ 61; omega, ⟨by show -1000 ≤ (d : Int); omega, by show (d : Int) ≤ 1000; omega⟩, by show yu.size ≤ 61; omega, ⟨by show -1000 ≤ (yp : Int); omega, by show (yp : Int) ≤ 1000; omega⟩, by show l.length ≤ 60; omega, HD5.out⟩, by omega, ZS.out, ZG.out⟩)
  by_cases t2 : tt = 2
  · subst t2
    go_wp2_with fail
    have KP := l1Pick_any b a n c xs (k1 + 1) W2.heap.size 3 [-129, 128, 5] rfl (by decide) (by decide) (by omega) _ (D2.out.src.alloc (.cells #[.int .i64 (-129), .int .i64 128, .int .i64 5] 2)) (lit_row W2 _ .i64 [-129, 128, 5] 3 rfl (by decide)) (by have := D2.out.src.lt; omega)
    unfold PickRes at KP
    refine KP.mono ?_
    clear KP
    rintro e W3 ⟨d, rfl, hdm, hs, hg⟩
    have hd : -129 ≤ d ∧ d ≤ 128 := by
      simp only [List.mem_cons, List.not_mem_nil, or_false] at hdm
      omega
    obtain ⟨hd1, hd2⟩ := hd
    have D3 := Lib.hid ((D2.out.below (below1 W2 (.cells #[.int .i64 (-129), .int .i64 128, .int .i64 5] 2))).call hs hg)
    clear hs hg hdm D2
    have c5 := D3.out.box.c5
    have f5 := D3.out.box.fz 5 (by decide)
    have lx := D3.out.box.lt
    have D4 := Lib.hid (D3.out.set 5 (.int .i64 d) (by decide) ⟨rfl, rfl, rfl, rfl, rfl, rfl, rfl⟩)
    go_upto_region 17 with fail
    generalize W3.setCell ⟨xp, 5, none⟩ (.int .i64 d) = W4 at *
    clear c5 f5 lx
    obtain ⟨-, d0, d1, d2, d3, d4, d5, d6, -⟩ := D4.out.box
    obtain ⟨-, e0, e1, e2, e3, e4, e5, e6, -⟩ := D4.out.res
    have g0 := D4.out.res.fz 0 (by decide)
    have g1 := D4.out.res.fz 1 (by decide)
    have g2 := D4.out.res.fz 2 (by decide)
    have g3 := D4.out.res.fz 3 (by decide)
    have g4 := D4.out.res.fz 4 (by decide)
    have g5 := D4.out.res.fz 5 (by decide)
    have g6 := D4.out.res.fz 6 (by decide)
    obtain ⟨Zx, Zs, Zg, Zo⟩ := D4.out.done
    have z0 := Zx.c0
    have z1 := Zx.c1
    have z2 := Zx.c2
    have z3 := Zx.c3
    have z4 := Zx.c4
    have z5 := Zx.c5
    have z6 := Zx.c6
    have GI := Lib.hid (D7.its GM.out Zo hb0 (by omega) hxs)
    have ZS := Lib.hid Zs
    have ZG := Lib.hid Zg
    clear Zx Zo Zs Zg
    go_wp2
    refine bodyPost_ret (v := .agg #[.int .i64 yk, .string yf, .string yt, .int .i64 ys, .string yu, .int .i64 d, .slice (some x) m q]) (by simp [results, Tryz.results28, go_sem, z0, z1, z2, z3, z4, z5, z6, e0, e1, e2, e3, e4, e5, e6]) rfl (by unfold PrBent; exact ⟨⟨yk, yf, yt, ys, yu, d, l⟩, x, m, q, A, N, C, k1 + 1 + 1, rfl, GI.out, by omega, ⟨⟨by show -1000 ≤ (yk : Int); omega, by show (yk : Int) ≤ 1000; omega⟩, by show yf.size ≤ 61; omega, by show yt.size ≤ 61; omega, ⟨by show -1000 ≤ (ys : Int); omega, by show (ys : Int) ≤ 1000; omega⟩, by show yu.size ≤ 61; omega, ⟨by show -1000 ≤ (d : Int); omega, by show (d : Int) ≤ 1000; omega⟩, by show l.length ≤ 60; omega, HD5.out⟩, by omega, ZS.out, ZG.out⟩)
  by_cases t3 : tt = 3
  · subst t3
    have c4 := D2.out.box.c4
    have f4 := D2.out.box.fz 4 (by decide)
    have lx := D2.out.box.lt
    have D4 := Lib.hid (D2.out.set 4 (.string ⟨#[1]⟩) (by decide) ⟨rfl, rfl, rfl, rfl, rfl, rfl, rfl⟩)
    go_upto_region 17 with fail
    generalize W2.setCell ⟨xp, 4, none⟩ (.string ⟨#[1]⟩) = W4 at *
    clear c4 f4 lx
    obtain ⟨-, d0, d1, d2, d3, d4, d5, d6, -⟩ := D4.out.box
    obtain ⟨-, e0, e1, e2, e3, e4, e5, e6, -⟩ := D4.out.res
    have g0 := D4.out.res.fz 0 (by decide)
    have g1 := D4.out.res.fz 1 (by decide)
    have g2 := D4.out.res.fz 2 (by decide)
    have g3 := D4.out.res.fz 3 (by decide)
    have g4 := D4.out.res.fz 4 (by decide)
    have g5 := D4.out.res.fz 5 (by decide)
    have g6 := D4.out.res.fz 6 (by decide)
    obtain ⟨Zx, Zs, Zg, Zo⟩ := D4.out.done
    have z0 := Zx.c0
    have z1 := Zx.c1
    have z2 := Zx.c2
    have z3 := Zx.c3
    have z4 := Zx.c4
    have z5 := Zx.c5
    have z6 := Zx.c6
    have GI := Lib.hid (D7.its GM.out Zo hb0 (by omega) hxs)
    have ZS := Lib.hid Zs
    have ZG := Lib.hid Zg
    clear Zx Zo Zs Zg
    go_wp2
    refine bodyPost_ret (v := .agg #[.int .i64 yk, .string yf, .string yt, .int .i64 ys, .string ⟨#[1]⟩, .int .i64 yp, .slice (some x) m q]) (by simp [results, Tryz.results28, go_sem, z0, z1, z2, z3, z4, z5, z6, e0, e1, e2, e3, e4, e5, e6]) rfl (by unfold PrBent; exact ⟨⟨yk, yf, yt, ys, ⟨#[1]⟩, yp, l⟩, x, m, q, A, N, C, k1 + 1, rfl, GI.out, by omega, ⟨⟨by show -1000 ≤ (yk : Int); omega, by show (yk : Int) ≤ 1000; omega⟩, by show yf.size ≤ 61; omega, by show yt.size ≤ 61; omega, ⟨by show -1000 ≤ (ys : Int); omega, by show (ys : Int) ≤ 1000; omega⟩, by show (⟨#[1]⟩ : ByteArray).size ≤ 61; decide, ⟨by show -1000 ≤ (yp : Int); omega, by show (yp : Int) ≤ 1000; omega⟩, by show l.length ≤ 60; omega, HD5.out⟩, by omega, ZS.out, ZG.out⟩)
  by_cases t4 : tt = 4
  · subst t4
    go_wp2_with fail
    refine wp_region_noPanic ?_
    refine wp_region_held_drew (S := (fun _ => True)) (by kernel_rfl) ?_ (fun hHeld => ?_)
    · exact trivial
    have DN := Lib.hid (D2.out.below ((Below.refl W2.heap.size W2).drew))
    clear D2
    have D2 := DN
    clear DN
    generalize W2.drew = W2b at *
    obtain ⟨W2, hW2⟩ : ∃ W2, W2 = W2b := ⟨_, rfl⟩
    subst hW2
    refine wpAnyH_take (i := 0) (oi := _) (v := ?_) rfl (by kernel_rfl) (by kernel_rfl) (by kernel_rfl) (fun _ _ _ h => h) (Or.inl ⟨by rfl, ?_⟩) (by with_reducible assumption) ?_
    rotate_left
    · intro Wz hSw
      clear hSw
      go_simp
      all_goals (with_reducible rfl)
    try simp only [Act.put, List.getElem_toArray, List.getElem_cons_zero, List.getElem_cons_succ, List.setIfInBounds_toArray, List.set_cons_zero, List.set_cons_succ]
    refine wpAnyH_take (i := 2) (oi := _) (v := ?_) rfl (by kernel_rfl) (by kernel_rfl) (by kernel_rfl) (fun _ _ _ h => h) (Or.inl ⟨by rfl, ?_⟩) (by with_reducible assumption) ?_
    rotate_left
    · intro Wz hSw
      clear hSw
      go_simp
      all_goals (with_reducible rfl)
    try simp only [Act.put, List.getElem_toArray, List.getElem_cons_zero, List.getElem_cons_succ, List.setIfInBounds_toArray, List.set_cons_zero, List.set_cons_succ]
    refine wpAnyH_ready (rs := [1, 3]) (by kernel_rfl) (by simp) ?_
    refine AllReadyH.cons (o := _) rfl (fun K hK => ?_) (AllReadyH.cons (o := _) rfl (fun K hK => ?_) AllReadyH.nil)
    · have y6 := D2.out.box.c6
      go_simp
      refine hK.out _ _ ?_ (fun hHeld => ?_)
      · exact trivial
      clear hK K
      try simp only [Act.put, List.getElem_toArray, List.getElem_cons_zero, List.getElem_cons_succ, List.setIfInBounds_toArray, List.set_cons_zero, List.set_cons_succ]
      clear y6
      refine wpAnyH_ready (rs := [3]) (by kernel_rfl) (by simp) ?_
      refine AllReadyH.cons (o := _) rfl (fun K hK => ?_) AllReadyH.nil
      have DN := Lib.hid (D2.out.below (below1 W2 (.cells #[.int .i64 0, .int .i64 1, .int .i64 6] 2)))
      have HR : Hid (Row (W2.alloc (.cells #[.int .i64 0, .int .i64 1, .int .i64 6] 2)) .i64 (.slice (some ⟨W2.heap.size, 0, none⟩) 3 3) [0, 1, 6]) := Lib.hid (lit_row W2 2 .i64 [0, 1, 6] 3 rfl (by decide))
      have hlb : W2.heap.size ≠ b := by have := D2.out.src.lt; omega
      go_simp
      refine hK.out _ _ ?_ (fun hHeld => ?_)
      · exact trivial
      clear hK K
      try simp only [Act.put, List.getElem_toArray, List.getElem_cons_zero, List.getElem_cons_succ, List.setIfInBounds_toArray, List.set_cons_zero, List.set_cons_succ]
      clear D2
      have D2 := DN
      clear DN
      generalize W2.heap.size = lb at HR hlb ⊢
      generalize W2.alloc (.cells #[.int .i64 0, .int .i64 1, .int .i64 6] 2) = W2b at *
      obtain ⟨W2, hW2⟩ : ∃ W2, W2 = W2b := ⟨_, rfl⟩
      subst hW2
      refine wpAnyH_ready (rs := [4]) (by kernel_rfl) (by simp) ?_
      refine AllReadyH.cons (o := _) rfl (fun K hK => ?_) AllReadyH.nil
      have KP := l1Pick_any b a n c xs (k1 + 1) lb 3 [0, 1, 6] rfl (by decide) (by decide) (by omega) _ D2.out.src HR.out hlb
      unfold PickRes at KP
      go_simp
      refine KP.mono ?_
      clear KP HR
      rintro e W3 ⟨d, rfl, hdm, hs, hg⟩
      have hd : 0 ≤ d ∧ d ≤ 6 := by
        simp only [List.mem_cons, List.not_mem_nil, or_false] at hdm
        omega
      obtain ⟨hd1, hd2⟩ := hd
      have DN := Lib.hid (D2.out.call hs hg)
      clear hs hg hdm D2
      have D2 := DN
      clear DN
      go_wp2_with fail
      refine hK.out _ _ ?_ (fun hHeld => ?_)
      · exact trivial
      clear hK K
      try simp only [Act.put, List.getElem_toArray, List.getElem_cons_zero, List.getElem_cons_succ, List.setIfInBounds_toArray, List.set_cons_zero, List.set_cons_succ]
      obtain ⟨W2, hW2⟩ : ∃ W2, W2 = W3 := ⟨_, rfl⟩
      subst hW2
      refine wpAnyH_take (i := 5) (oi := _) (v := ?_) rfl (by kernel_rfl) (by kernel_rfl) (by kernel_rfl) (fun _ _ _ h => h) (Or.inl ⟨by rfl, ?_⟩) (by with_reducible assumption) ?_
      rotate_left
      · intro Wz hSw
        clear hSw
        go_simp
        all_goals (with_reducible rfl)
      try simp only [Act.put, List.getElem_toArray, List.getElem_cons_zero, List.getElem_cons_succ, List.setIfInBounds_toArray, List.set_cons_zero, List.set_cons_succ]
      refine wpAnyH_ready (rs := [6]) (by kernel_rfl) (by simp) ?_
      refine AllReadyH.cons (o := _) rfl (fun K hK => ?_) AllReadyH.nil
      have DN := Lib.hid (D2.out.below (below1 W2 (.cells #[.int .i64 d, .string ⟨#[]⟩, .string ⟨#[106, 97, 98, 98, 101, 114, 58, 99, 108, 105, 101, 110, 116]⟩, .string ⟨#[115, 104, 111, 119]⟩, .slice none 0 0] 54)))
      have hone := itCells W2 (.int .i64 d) (.string ⟨#[]⟩) (.string ⟨#[106, 97, 98, 98, 101, 114, 58, 99, 108, 105, 101, 110, 116]⟩) (.string ⟨#[115, 104, 111, 119]⟩) (.slice none 0 0)
      go_simp
      refine hK.out _ _ ?_ (fun hHeld => ?_)
      · exact trivial
      clear hK K
      try simp only [Act.put, List.getElem_toArray, List.getElem_cons_zero, List.getElem_cons_succ, List.setIfInBounds_toArray, List.set_cons_zero, List.set_cons_succ]
      clear D2
      have D2 := DN
      clear DN
      generalize W2.heap.size = ob at hone ⊢
      generalize W2.alloc (.cells #[.int .i64 d, .string ⟨#[]⟩, .string ⟨#[106, 97, 98, 98, 101, 114, 58, 99, 108, 105, 101, 110, 116]⟩, .string ⟨#[115, 104, 111, 119]⟩, .slice none 0 0] 54) = W2b at *
      obtain ⟨W2, hW2⟩ : ∃ W2, W2 = W2b := ⟨_, rfl⟩
      subst hW2
      have GW := (GM.out.onlyP D2.out.on (fun i h1 h2 hp => by rcases hp with e | e | e | e <;> omega))
      have hsB : w.heap.size + 1 ≤ W2.heap.size := by have := D2.out.gr.size; have := GW.row.lt; have := D2.out.res.lt; omega
      refine wpAnyH_ready (rs := [7]) (by kernel_rfl) (by simp) ?_
      refine AllReadyH.cons (o := _) rfl (fun K hK => ?_) AllReadyH.nil
      refine step_own_at (by rfl) _ _ 24 rfl 54 i0 (.agg #[.int .i64 0, .string ByteArray.empty, .string ByteArray.empty, .string ByteArray.empty, .slice none 0 0]) 5 80 Tryz.underlying24 hi hz0 hi1 hz2 rfl (by decide) (w.heap.size + 1) _ m _ (by rfl) GW.row ⟨ob, 0, none⟩ 1 1 [.int .i64 d, .string ⟨#[]⟩, .string ⟨#[106, 97, 98, 98, 101, 114, 58, 99, 108, 105, 101, 110, 116]⟩, .string ⟨#[115, 104, 111, 119]⟩, .slice none 0 0] (by rfl) rfl hone (by intro v hv; simp at hv; rcases hv with rfl | rfl | rfl | rfl | rfl <;> rfl) (by unfold maxLen; omega) (by omega) hsB ?_
      intro v' W7 hown hgr hat
      obtain ⟨a8, c8, rfl⟩ := owns_slice hown
      obtain ⟨x8, rfl⟩ := owns_some hown (by omega)
      have hrow : ∀ g, (Value.slice (some x) m q).ownBlock = some g → w.heap.size + 1 ≤ g ∧ g ≠ xp := fun g e => by have h1 := GM.out.row.lt g e; omega
      have G8 := Lib.hid (GW.snoc (x := (⟨d, ⟨#[]⟩, ⟨#[106, 97, 98, 98, 101, 114, 58, 99, 108, 105, 101, 110, 116]⟩, ⟨#[115, 104, 111, 119]⟩, []⟩ : It)) (Below.refl _ _) (noAts0 _ _ _) (fun _ => rfl) hsB hown hgr (hat.imp id fun e => ⟨W2.heap.size, e, Nat.le_refl _⟩))
      have D8 := Lib.hid (D2.out.regrow hgr (fun g e => by have := hrow g e; omega))
      have hRow8 : ∀ g, (Value.slice (some x8) (m + 1) c8).ownBlock = some g → w.heap.size + 1 ≤ g ∧ g < W7.heap.size ∧ g ≠ xp := fun g e => ⟨(G8.out.row.lt g e).1, (G8.out.row.lt g e).2, by
        rcases hat with h | h
        · rw [h] at e
          exact (hrow g e).2
        · rw [h] at e
          simp only [Option.some.injEq] at e
          have := D2.out.box.lt
          omega⟩
      have hAts8 : ∀ i, i < (l ++ [(⟨d, ⟨#[]⟩, ⟨#[106, 97, 98, 98, 101, 114, 58, 99, 108, 105, 101, 110, 116]⟩, ⟨#[115, 104, 111, 119]⟩, []⟩ : It)]).length → ∀ y, (putA l.length none A) i = some y → (putA l.length 0 N) i ≠ 0 → w.heap.size + 1 ≤ y.block ∧ y.block < xp := fun i hi y hy hn => by
        unfold putA at hy hn
        by_cases e : i = l.length
        · rw [if_pos e] at hy
          cases hy
        · rw [if_neg e] at hy hn
          rw [List.length_append] at hi
          simp only [List.length_cons, List.length_nil] at hi
          have := (GM.out.ats i (by omega)).1.in hy hn
          omega
      have hx7 : xp < W7.heap.size := D8.out.box.lt
      have y6 := D8.out.box.c6
      have fz6 := D8.out.box.fz 6 (by decide)
      have lx := D8.out.box.lt
      have D9 : Hid (D7 w W7 (W7.setCell ⟨xp, 6, none⟩ (.slice (some x8) (m + 1) c8)) b a n c xs (k1 + 1 + 1) xp (.int .i64 yk) (.string yf) (.string yt) (.int .i64 ys) (.string yu) (.int .i64 yp) (.slice (some x8) (m + 1) c8)) := Lib.hid (D8.out.set 6 (.slice (some x8) (m + 1) c8) (by decide) ⟨rfl, rfl, rfl, rfl, rfl, rfl, rfl⟩)
      have HD8 := Lib.hid (drawn_snoc HD5.out (x := (⟨d, ⟨#[]⟩, ⟨#[106, 97, 98, 98, 101, 114, 58, 99, 108, 105, 101, 110, 116]⟩, ⟨#[115, 104, 111, 119]⟩, []⟩ : It)) ⟨⟨by show (0 : Int) ≤ d; omega, by show d ≤ (6 : Int); omega⟩, ⟨by show (⟨#[]⟩ : ByteArray).size ≤ 60; decide, by show (⟨#[106, 97, 98, 98, 101, 114, 58, 99, 108, 105, 101, 110, 116]⟩ : ByteArray).size ≤ 60; decide, by show (⟨#[115, 104, 111, 119]⟩ : ByteArray).size ≤ 60; decide⟩, by simp, fun i => by simp [dAt]⟩)
      refine hK.out _ _ ?_ (fun hHeld => ?_)
      · exact trivial
      clear hK K
      try simp only [Act.put, List.getElem_toArray, List.getElem_cons_zero, List.getElem_cons_succ, List.setIfInBounds_toArray, List.set_cons_zero, List.set_cons_succ]
      refine wpAnyH_take (i := 8) (oi := _) (v := ?_) rfl (by kernel_rfl) (by kernel_rfl) (by kernel_rfl) (fun _ _ _ h => h) (Or.inl ⟨by rfl, ?_⟩) (by with_reducible assumption) ?_
      rotate_left
      · intro Wz hSw
        clear hSw
        go_simp
        all_goals (with_reducible rfl)
      try simp only [Act.put, List.getElem_toArray, List.getElem_cons_zero, List.getElem_cons_succ, List.setIfInBounds_toArray, List.set_cons_zero, List.set_cons_succ]
      refine wpAnyH_ready (rs := [9]) (by kernel_rfl) (by simp) ?_
      refine AllReadyH.cons (o := _) rfl (fun K hK => ?_) AllReadyH.nil
      go_simp
      refine hK.out _ _ ?_ (fun hHeld => ?_)
      · exact trivial
      clear hK K
      try simp only [Act.put, List.getElem_toArray, List.getElem_cons_zero, List.getElem_cons_succ, List.setIfInBounds_toArray, List.set_cons_zero, List.set_cons_succ]
      refine wpAnyH_done (by kernel_rfl) ?_ _
      refine NoPanic.normal ?_
      clear hown hgr hat y6 fz6 lx hone D2 GM
      go_upto_region 17 with fail
      generalize hw9 : W7.setCell ⟨xp, 6, none⟩ (.slice (some x8) (m + 1) c8) = W9 at *
      obtain ⟨-, d0, d1, d2, d3, d4, d5, d6, -⟩ := D9.out.box
      obtain ⟨-, e0, e1, e2, e3, e4, e5, e6, -⟩ := D9.out.res
      have g0 := D9.out.res.fz 0 (by decide)
      have g1 := D9.out.res.fz 1 (by decide)
      have g2 := D9.out.res.fz 2 (by decide)
      have g3 := D9.out.res.fz 3 (by decide)
      have g4 := D9.out.res.fz 4 (by decide)
      have g5 := D9.out.res.fz 5 (by decide)
      have g6 := D9.out.res.fz 6 (by decide)
      obtain ⟨Zx, Zs, Zg, Zo⟩ := D9.out.done
      have z0 := Zx.c0
      have z1 := Zx.c1
      have z2 := Zx.c2
      have z3 := Zx.c3
      have z4 := Zx.c4
      have z5 := Zx.c5
      have z6 := Zx.c6
      have GI := Lib.hid ((G8.out.onlyX Zo (fun g e hp => by have := hRow8 g e; rcases hp with hp | hp | hp | hp <;> omega) (fun i hi y hy hn hp => by have := hAts8 i hi y hy hn; rcases hp with hp | hp | hp | hp <;> omega)).base (B' := w.heap.size) (by omega))
      have ZS := Lib.hid Zs
      have ZG := Lib.hid Zg
      clear Zx Zo Zs Zg
      go_wp2
      refine bodyPost_ret (v := .agg #[.int .i64 yk, .string yf, .string yt, .int .i64 ys, .string yu, .int .i64 yp, .slice (some x8) (m + 1) c8]) (by simp [results, Tryz.results28, go_sem, z0, z1, z2, z3, z4, z5, z6, e0, e1, e2, e3, e4, e5, e6]) rfl (by unfold PrBent; exact ⟨⟨yk, yf, yt, ys, yu, yp, l ++ [(⟨d, ⟨#[]⟩, ⟨#[106, 97, 98, 98, 101, 114, 58, 99, 108, 105, 101, 110, 116]⟩, ⟨#[115, 104, 111, 119]⟩, []⟩ : It)]⟩, x8, m + 1, c8, _, _, _, k1 + 1 + 1, rfl, GI.out, by omega, ⟨⟨by show -1000 ≤ (yk : Int); omega, by show (yk : Int) ≤ 1000; omega⟩, by show yf.size ≤ 61; omega, by show yt.size ≤ 61; omega, ⟨by show -1000 ≤ (ys : Int); omega, by show (ys : Int) ≤ 1000; omega⟩, by show yu.size ≤ 61; omega, ⟨by show -1000 ≤ (yp : Int); omega, by show (yp : Int) ≤ 1000; omega⟩, by show (l ++ [(⟨d, ⟨#[]⟩, ⟨#[106, 97, 98, 98, 101, 114, 58, 99, 108, 105, 101, 110, 116]⟩, ⟨#[115, 104, 111, 119]⟩, []⟩ : It)]).length ≤ 60; rw [List.length_append, hlm]; show m + 1 ≤ 60; omega, HD8.out⟩, by omega, ZS.out, ZG.out⟩)
    · have DN := Lib.hid (D2.out.below (below1 W2 (.cells #[.int .i64 0, .int .i64 1, .int .i64 6] 2)))
      have HR : Hid (Row (W2.alloc (.cells #[.int .i64 0, .int .i64 1, .int .i64 6] 2)) .i64 (.slice (some ⟨W2.heap.size, 0, none⟩) 3 3) [0, 1, 6]) := Lib.hid (lit_row W2 2 .i64 [0, 1, 6] 3 rfl (by decide))
      have hlb : W2.heap.size ≠ b := by have := D2.out.src.lt; omega
      go_simp
      refine hK.out _ _ ?_ (fun hHeld => ?_)
      · exact trivial
      clear hK K
      try simp only [Act.put, List.getElem_toArray, List.getElem_cons_zero, List.getElem_cons_succ, List.setIfInBounds_toArray, List.set_cons_zero, List.set_cons_succ]
      clear D2
      have D2 := DN
      clear DN
      generalize W2.heap.size = lb at HR hlb ⊢
      generalize W2.alloc (.cells #[.int .i64 0, .int .i64 1, .int .i64 6] 2) = W2b at *
      obtain ⟨W2, hW2⟩ : ∃ W2, W2 = W2b := ⟨_, rfl⟩
      subst hW2
      refine wpAnyH_ready (rs := [1, 4]) (by kernel_rfl) (by simp) ?_
      refine AllReadyH.cons (o := _) rfl (fun K hK => ?_) (AllReadyH.cons (o := _) rfl (fun K hK => ?_) AllReadyH.nil)
      · have y6 := D2.out.box.c6
        go_simp
        refine hK.out _ _ ?_ (fun hHeld => ?_)
        · exact trivial
        clear hK K
        try simp only [Act.put, List.getElem_toArray, List.getElem_cons_zero, List.getElem_cons_succ, List.setIfInBounds_toArray, List.set_cons_zero, List.set_cons_succ]
        clear y6
        refine wpAnyH_ready (rs := [4]) (by kernel_rfl) (by simp) ?_
        refine AllReadyH.cons (o := _) rfl (fun K hK => ?_) AllReadyH.nil
        have KP := l1Pick_any b a n c xs (k1 + 1) lb 3 [0, 1, 6] rfl (by decide) (by decide) (by omega) _ D2.out.src HR.out hlb
        unfold PickRes at KP
        go_simp
        refine KP.mono ?_
        clear KP HR
        rintro e W3 ⟨d, rfl, hdm, hs, hg⟩
        have hd : 0 ≤ d ∧ d ≤ 6 := by
          simp only [List.mem_cons, List.not_mem_nil, or_false] at hdm
          omega
        obtain ⟨hd1, hd2⟩ := hd
        have DN := Lib.hid (D2.out.call hs hg)
        clear hs hg hdm D2
        have D2 := DN
        clear DN
        go_wp2_with fail
        refine hK.out _ _ ?_ (fun hHeld => ?_)
        · exact trivial
        clear hK K
        try simp only [Act.put, List.getElem_toArray, List.getElem_cons_zero, List.getElem_cons_succ, List.setIfInBounds_toArray, List.set_cons_zero, List.set_cons_succ]
        obtain ⟨W2, hW2⟩ : ∃ W2, W2 = W3 := ⟨_, rfl⟩
        subst hW2
        refine wpAnyH_take (i := 5) (oi := _) (v := ?_) rfl (by kernel_rfl) (by kernel_rfl) (by kernel_rfl) (fun _ _ _ h => h) (Or.inl ⟨by rfl, ?_⟩) (by with_reducible assumption) ?_
        rotate_left
        · intro Wz hSw
          clear hSw
          go_simp
          all_goals (with_reducible rfl)
        try simp only [Act.put, List.getElem_toArray, List.getElem_cons_zero, List.getElem_cons_succ, List.setIfInBounds_toArray, List.set_cons_zero, List.set_cons_succ]
        refine wpAnyH_ready (rs := [6]) (by kernel_rfl) (by simp) ?_
        refine AllReadyH.cons (o := _) rfl (fun K hK => ?_) AllReadyH.nil
        have DN := Lib.hid (D2.out.below (below1 W2 (.cells #[.int .i64 d, .string ⟨#[]⟩, .string ⟨#[106, 97, 98, 98, 101, 114, 58, 99, 108, 105, 101, 110, 116]⟩, .string ⟨#[115, 104, 111, 119]⟩, .slice none 0 0] 54)))
        have hone := itCells W2 (.int .i64 d) (.string ⟨#[]⟩) (.string ⟨#[106, 97, 98, 98, 101, 114, 58, 99, 108, 105, 101, 110, 116]⟩) (.string ⟨#[115, 104, 111, 119]⟩) (.slice none 0 0)
        go_simp
        refine hK.out _ _ ?_ (fun hHeld => ?_)
        · exact trivial
        clear hK K
        try simp only [Act.put, List.getElem_toArray, List.getElem_cons_zero, List.getElem_cons_succ, List.setIfInBounds_toArray, List.set_cons_zero, List.set_cons_succ]
        clear D2
        have D2 := DN
        clear DN
        generalize W2.heap.size = ob at hone ⊢
        generalize W2.alloc (.cells #[.int .i64 d, .string ⟨#[]⟩, .string ⟨#[106, 97, 98, 98, 101, 114, 58, 99, 108, 105, 101, 110, 116]⟩, .string ⟨#[115, 104, 111, 119]⟩, .slice none 0 0] 54) = W2b at *
        obtain ⟨W2, hW2⟩ : ∃ W2, W2 = W2b := ⟨_, rfl⟩
        subst hW2
        have GW := (GM.out.onlyP D2.out.on (fun i h1 h2 hp => by rcases hp with e | e | e | e <;> omega))
        have hsB : w.heap.size + 1 ≤ W2.heap.size := by have := D2.out.gr.size; have := GW.row.lt; have := D2.out.res.lt; omega
        refine wpAnyH_ready (rs := [7]) (by kernel_rfl) (by simp) ?_
        refine AllReadyH.cons (o := _) rfl (fun K hK => ?_) AllReadyH.nil
        refine step_own_at (by rfl) _ _ 24 rfl 54 i0 (.agg #[.int .i64 0, .string ByteArray.empty, .string ByteArray.empty, .string ByteArray.empty, .slice none 0 0]) 5 80 Tryz.underlying24 hi hz0 hi1 hz2 rfl (by decide) (w.heap.size + 1) _ m _ (by rfl) GW.row ⟨ob, 0, none⟩ 1 1 [.int .i64 d, .string ⟨#[]⟩, .string ⟨#[106, 97, 98, 98, 101, 114, 58, 99, 108, 105, 101, 110, 116]⟩, .string ⟨#[115, 104, 111, 119]⟩, .slice none 0 0] (by rfl) rfl hone (by intro v hv; simp at hv; rcases hv with rfl | rfl | rfl | rfl | rfl <;> rfl) (by unfold maxLen; omega) (by omega) hsB ?_
        intro v' W7 hown hgr hat
        obtain ⟨a8, c8, rfl⟩ := owns_slice hown
        obtain ⟨x8, rfl⟩ := owns_some hown (by omega)
        have hrow : ∀ g, (Value.slice (some x) m q).ownBlock = some g → w.heap.size + 1 ≤ g ∧ g ≠ xp := fun g e => by have h1 := GM.out.row.lt g e; omega
        have G8 := Lib.hid (GW.snoc (x := (⟨d, ⟨#[]⟩, ⟨#[106, 97, 98, 98, 101, 114, 58, 99, 108, 105, 101, 110, 116]⟩, ⟨#[115, 104, 111, 119]⟩, []⟩ : It)) (Below.refl _ _) (noAts0 _ _ _) (fun _ => rfl) hsB hown hgr (hat.imp id fun e => ⟨W2.heap.size, e, Nat.le_refl _⟩))
        have D8 := Lib.hid (D2.out.regrow hgr (fun g e => by have := hrow g e; omega))
        have hRow8 : ∀ g, (Value.slice (some x8) (m + 1) c8).ownBlock = some g → w.heap.size + 1 ≤ g ∧ g < W7.heap.size ∧ g ≠ xp := fun g e => ⟨(G8.out.row.lt g e).1, (G8.out.row.lt g e).2, by
          rcases hat with h | h
          · rw [h] at e
            exact (hrow g e).2
          · rw [h] at e
            simp only [Option.some.injEq] at e
            have := D2.out.box.lt
            omega⟩
        have hAts8 : ∀ i, i < (l ++ [(⟨d, ⟨#[]⟩, ⟨#[106, 97, 98, 98, 101, 114, 58, 99, 108, 105, 101, 110, 116]⟩, ⟨#[115, 104, 111, 119]⟩, []⟩ : It)]).length → ∀ y, (putA l.length none A) i = some y → (putA l.length 0 N) i ≠ 0 → w.heap.size + 1 ≤ y.block ∧ y.block < xp := fun i hi y hy hn => by
          unfold putA at hy hn
          by_cases e : i = l.length
          · rw [if_pos e] at hy
            cases hy
          · rw [if_neg e] at hy hn
            rw [List.length_append] at hi
            simp only [List.length_cons, List.length_nil] at hi
            have := (GM.out.ats i (by omega)).1.in hy hn
            omega
        have hx7 : xp < W7.heap.size := D8.out.box.lt
        have y6 := D8.out.box.c6
        have fz6 := D8.out.box.fz 6 (by decide)
        have lx := D8.out.box.lt
        have D9 : Hid (D7 w W7 (W7.setCell ⟨xp, 6, none⟩ (.slice (some x8) (m + 1) c8)) b a n c xs (k1 + 1 + 1) xp (.int .i64 yk) (.string yf) (.string yt) (.int .i64 ys) (.string yu) (.int .i64 yp) (.slice (some x8) (m + 1) c8)) := Lib.hid (D8.out.set 6 (.slice (some x8) (m + 1) c8) (by decide) ⟨rfl, rfl, rfl, rfl, rfl, rfl, rfl⟩)
        have HD8 := Lib.hid (drawn_snoc HD5.out (x := (⟨d, ⟨#[]⟩, ⟨#[106, 97, 98, 98, 101, 114, 58, 99, 108, 105, 101, 110, 116]⟩, ⟨#[115, 104, 111, 119]⟩, []⟩ : It)) ⟨⟨by show (0 : Int) ≤ d; omega, by show d ≤ (6 : Int); omega⟩, ⟨by show (⟨#[]⟩ : ByteArray).size ≤ 60; decide, by show (⟨#[106, 97, 98, 98, 101, 114, 58, 99, 108, 105, 101, 110, 116]⟩ : ByteArray).size ≤ 60; decide, by show (⟨#[115, 104, 111, 119]⟩ : ByteArray).size ≤ 60; decide⟩, by simp, fun i => by simp [dAt]⟩)
        refine hK.out _ _ ?_ (fun hHeld => ?_)
        · exact trivial
        clear hK K
        try simp only [Act.put, List.getElem_toArray, List.getElem_cons_zero, List.getElem_cons_succ, List.setIfInBounds_toArray, List.set_cons_zero, List.set_cons_succ]
        refine wpAnyH_take (i := 8) (oi := _) (v := ?_) rfl (by kernel_rfl) (by kernel_rfl) (by kernel_rfl) (fun _ _ _ h => h) (Or.inl ⟨by rfl, ?_⟩) (by with_reducible assumption) ?_
        rotate_left
        · intro Wz hSw
          clear hSw
          go_simp
          all_goals (with_reducible rfl)
        try simp only [Act.put, List.getElem_toArray, List.getElem_cons_zero, List.getElem_cons_succ, List.setIfInBounds_toArray, List.set_cons_zero, List.set_cons_succ]
        refine wpAnyH_ready (rs := [9]) (by kernel_rfl) (by simp) ?_
        refine AllReadyH.cons (o := _) rfl (fun K hK => ?_) AllReadyH.nil
        go_simp
        refine hK.out _ _ ?_ (fun hHeld => ?_)
        · exact trivial
        clear hK K
        try simp only [Act.put, List.getElem_toArray, List.getElem_cons_zero, List.getElem_cons_succ, List.setIfInBounds_toArray, List.set_cons_zero, List.set_cons_succ]
        refine wpAnyH_done (by kernel_rfl) ?_ _
        refine NoPanic.normal ?_
        clear hown hgr hat y6 fz6 lx hone D2 GM
        go_upto_region 17 with fail
        generalize hw9 : W7.setCell ⟨xp, 6, none⟩ (.slice (some x8) (m + 1) c8) = W9 at *
        obtain ⟨-, d0, d1, d2, d3, d4, d5, d6, -⟩ := D9.out.box
        obtain ⟨-, e0, e1, e2, e3, e4, e5, e6, -⟩ := D9.out.res
        have g0 := D9.out.res.fz 0 (by decide)
        have g1 := D9.out.res.fz 1 (by decide)
        have g2 := D9.out.res.fz 2 (by decide)
        have g3 := D9.out.res.fz 3 (by decide)
        have g4 := D9.out.res.fz 4 (by decide)
        have g5 := D9.out.res.fz 5 (by decide)
        have g6 := D9.out.res.fz 6 (by decide)
        obtain ⟨Zx, Zs, Zg, Zo⟩ := D9.out.done
        have z0 := Zx.c0
        have z1 := Zx.c1
        have z2 := Zx.c2
        have z3 := Zx.c3
        have z4 := Zx.c4
        have z5 := Zx.c5
        have z6 := Zx.c6
        have GI := Lib.hid ((G8.out.onlyX Zo (fun g e hp => by have := hRow8 g e; rcases hp with hp | hp | hp | hp <;> omega) (fun i hi y hy hn hp => by have := hAts8 i hi y hy hn; rcases hp with hp | hp | hp | hp <;> omega)).base (B' := w.heap.size) (by omega))
        have ZS := Lib.hid Zs
        have ZG := Lib.hid Zg
        clear Zx Zo Zs Zg
        go_wp2
        refine bodyPost_ret (v := .agg #[.int .i64 yk, .string yf, .string yt, .int .i64 ys, .string yu, .int .i64 yp, .slice (some x8) (m + 1) c8]) (by simp [results, Tryz.results28, go_sem, z0, z1, z2, z3, z4, z5, z6, e0, e1, e2, e3, e4, e5, e6]) rfl (by unfold PrBent; exact ⟨⟨yk, yf, yt, ys, yu, yp, l ++ [(⟨d, ⟨#[]⟩, ⟨#[106, 97, 98, 98, 101, 114, 58, 99, 108, 105, 101, 110, 116]⟩, ⟨#[115, 104, 111, 119]⟩, []⟩ : It)]⟩, x8, m + 1, c8, _, _, _, k1 + 1 + 1, rfl, GI.out, by omega, ⟨⟨by show -1000 ≤ (yk : Int); omega, by show (yk : Int) ≤ 1000; omega⟩, by show yf.size ≤ 61; omega, by show yt.size ≤ 61; omega, ⟨by show -1000 ≤ (ys : Int); omega, by show (ys : Int) ≤ 1000; omega⟩, by show yu.size ≤ 61; omega, ⟨by show -1000 ≤ (yp : Int); omega, by show (yp : Int) ≤ 1000; omega⟩, by show (l ++ [(⟨d, ⟨#[]⟩, ⟨#[106, 97, 98, 98, 101, 114, 58, 99, 108, 105, 101, 110, 116]⟩, ⟨#[115, 104, 111, 119]⟩, []⟩ : It)]).length ≤ 60; rw [List.length_append, hlm]; show m + 1 ≤ 60; omega, HD8.out⟩, by omega, ZS.out, ZG.out⟩)
      · have KP := l1Pick_any b a n c xs (k1 + 1) lb 3 [0, 1, 6] rfl (by decide) (by decide) (by omega) _ D2.out.src HR.out hlb
        unfold PickRes at KP
        go_simp
        refine KP.mono ?_
        clear KP HR
        rintro e W3 ⟨d, rfl, hdm, hs, hg⟩
        have hd : 0 ≤ d ∧ d ≤ 6 := by
          simp only [List.mem_cons, List.not_mem_nil, or_false] at hdm
          omega
        obtain ⟨hd1, hd2⟩ := hd
        have DN := Lib.hid (D2.out.call hs hg)
        clear hs hg hdm D2
        have D2 := DN
        clear DN
        go_wp2_with fail
        refine hK.out _ _ ?_ (fun hHeld => ?_)
        · exact trivial
        clear hK K
        try simp only [Act.put, List.getElem_toArray, List.getElem_cons_zero, List.getElem_cons_succ, List.setIfInBounds_toArray, List.set_cons_zero, List.set_cons_succ]
        obtain ⟨W2, hW2⟩ : ∃ W2, W2 = W3 := ⟨_, rfl⟩
        subst hW2
        refine wpAnyH_take (i := 5) (oi := _) (v := ?_) rfl (by kernel_rfl) (by kernel_rfl) (by kernel_rfl) (fun _ _ _ h => h) (Or.inl ⟨by rfl, ?_⟩) (by with_reducible assumption) ?_
        rotate_left
        · intro Wz hSw
          clear hSw
          go_simp
          all_goals (with_reducible rfl)
        try simp only [Act.put, List.getElem_toArray, List.getElem_cons_zero, List.getElem_cons_succ, List.setIfInBounds_toArray, List.set_cons_zero, List.set_cons_succ]
        refine wpAnyH_ready (rs := [1, 6]) (by kernel_rfl) (by simp) ?_
        refine AllReadyH.cons (o := _) rfl (fun K hK => ?_) (AllReadyH.cons (o := _) rfl (fun K hK => ?_) AllReadyH.nil)
        · have y6 := D2.out.box.c6
          go_simp
          refine hK.out _ _ ?_ (fun hHeld => ?_)
          · exact trivial
          clear hK K
          try simp only [Act.put, List.getElem_toArray, List.getElem_cons_zero, List.getElem_cons_succ, List.setIfInBounds_toArray, List.set_cons_zero, List.set_cons_succ]
          clear y6
          refine wpAnyH_ready (rs := [6]) (by kernel_rfl) (by simp) ?_
          refine AllReadyH.cons (o := _) rfl (fun K hK => ?_) AllReadyH.nil
          have DN := Lib.hid (D2.out.below (below1 W2 (.cells #[.int .i64 d, .string ⟨#[]⟩, .string ⟨#[106, 97, 98, 98, 101, 114, 58, 99, 108, 105, 101, 110, 116]⟩, .string ⟨#[115, 104, 111, 119]⟩, .slice none 0 0] 54)))
          have hone := itCells W2 (.int .i64 d) (.string ⟨#[]⟩) (.string ⟨#[106, 97, 98, 98, 101, 114, 58, 99, 108, 105, 101, 110, 116]⟩) (.string ⟨#[115, 104, 111, 119]⟩) (.slice none 0 0)
          go_simp
          refine hK.out _ _ ?_ (fun hHeld => ?_)
          · exact trivial
          clear hK K
          try simp only [Act.put, List.getElem_toArray, List.getElem_cons_zero, List.getElem_cons_succ, List.setIfInBounds_toArray, List.set_cons_zero, List.set_cons_succ]
          clear D2
          have D2 := DN
          clear DN
          generalize W2.heap.size = ob at hone ⊢
          generalize W2.alloc (.cells #[.int .i64 d, .string ⟨#[]⟩, .string ⟨#[106, 97, 98, 98, 101, 114, 58, 99, 108, 105, 101, 110, 116]⟩, .string ⟨#[115, 104, 111, 119]⟩, .slice none 0 0] 54) = W2b at *
          obtain ⟨W2, hW2⟩ : ∃ W2, W2 = W2b := ⟨_, rfl⟩
          subst hW2
          have GW := (GM.out.onlyP D2.out.on (fun i h1 h2 hp => by rcases hp with e | e | e | e <;> omega))
          have hsB : w.heap.size + 1 ≤ W2.heap.size := by have := D2.out.gr.size; have := GW.row.lt; have := D2.out.res.lt; omega
          refine wpAnyH_ready (rs := [7]) (by kernel_rfl) (by simp) ?_
          refine AllReadyH.cons (o := _) rfl (fun K hK => ?_) AllReadyH.nil
          refine step_own_at (by rfl) _ _ 24 rfl 54 i0 (.agg #[.int .i64 0, .string ByteArray.empty, .string ByteArray.empty, .string ByteArray.empty, .slice none 0 0]) 5 80 Tryz.underlying24 hi hz0 hi1 hz2 rfl (by decide) (w.heap.size + 1) _ m _ (by rfl) GW.row ⟨ob, 0, none⟩ 1 1 [.int .i64 d, .string ⟨#[]⟩, .string ⟨#[106, 97, 98, 98, 101, 114, 58, 99, 108, 105, 101, 110, 116]⟩, .string ⟨#[115, 104, 111, 119]⟩, .slice none 0 0] (by rfl) rfl hone (by intro v hv; simp at hv; rcases hv with rfl | rfl | rfl | rfl | rfl <;> rfl) (by unfold maxLen; omega) (by omega) hsB ?_
          intro v' W7 hown hgr hat
          obtain ⟨a8, c8, rfl⟩ := owns_slice hown
          obtain ⟨x8, rfl⟩ := owns_some hown (by omega)
          have hrow : ∀ g, (Value.slice (some x) m q).ownBlock = some g → w.heap.size + 1 ≤ g ∧ g ≠ xp := fun g e => by have h1 := GM.out.row.lt g e; omega
          have G8 := Lib.hid (GW.snoc (x := (⟨d, ⟨#[]⟩, ⟨#[106, 97, 98, 98, 101, 114, 58, 99, 108, 105, 101, 110, 116]⟩, ⟨#[115, 104, 111, 119]⟩, []⟩ : It)) (Below.refl _ _) (noAts0 _ _ _) (fun _ => rfl) hsB hown hgr (hat.imp id fun e => ⟨W2.heap.size, e, Nat.le_refl _⟩))
          have D8 := Lib.hid (D2.out.regrow hgr (fun g e => by have := hrow g e; omega))
          have hRow8 : ∀ g, (Value.slice (some x8) (m + 1) c8).ownBlock = some g → w.heap.size + 1 ≤ g ∧ g < W7.heap.size ∧ g ≠ xp := fun g e => ⟨(G8.out.row.lt g e).1, (G8.out.row.lt g e).2, by
            rcases hat with h | h
            · rw [h] at e
              exact (hrow g e).2
            · rw [h] at e
              simp only [Option.some.injEq] at e
              have := D2.out.box.lt
              omega⟩
          have hAts8 : ∀ i, i < (l ++ [(⟨d, ⟨#[]⟩, ⟨#[106, 97, 98, 98, 101, 114, 58, 99, 108, 105, 101, 110, 116]⟩, ⟨#[115, 104, 111, 119]⟩, []⟩ : It)]).length → ∀ y, (putA l.length none A) i = some y → (putA l.length 0 N) i ≠ 0 → w.heap.size + 1 ≤ y.block ∧ y.block < xp := fun i hi y hy hn => by
            unfold putA at hy hn
            by_cases e : i = l.length
            · rw [if_pos e] at hy
              cases hy
            · rw [if_neg e] at hy hn
              rw [List.length_append] at hi
              simp only [List.length_cons, List.length_nil] at hi
              have := (GM.out.ats i (by omega)).1.in hy hn
              omega
          have hx7 : xp < W7.heap.size := D8.out.box.lt
          have y6 := D8.out.box.c6
          have fz6 := D8.out.box.fz 6 (by decide)
          have lx := D8.out.box.lt
          have D9 : Hid (D7 w W7 (W7.setCell ⟨xp, 6, none⟩ (.slice (some x8) (m + 1) c8)) b a n c xs (k1 + 1 + 1) xp (.int .i64 yk) (.string yf) (.string yt) (.int .i64 ys) (.string yu) (.int .i64 yp) (.slice (some x8) (m + 1) c8)) := Lib.hid (D8.out.set 6 (.slice (some x8) (m + 1) c8) (by decide) ⟨rfl, rfl, rfl, rfl, rfl, rfl, rfl⟩)
          have HD8 := Lib.hid (drawn_snoc HD5.out (x := (⟨d, ⟨#[]⟩, ⟨#[106, 97, 98, 98, 101, 114, 58, 99, 108, 105, 101, 110, 116]⟩, ⟨#[115, 104, 111, 119]⟩, []⟩ : It)) ⟨⟨by show (0 : Int) ≤ d; omega, by show d ≤ (6 : Int); omega⟩, ⟨by show (⟨#[]⟩ : ByteArray).size ≤ 60; decide, by show (⟨#[106, 97, 98, 98, 101, 114, 58, 99, 108, 105, 101, 110, 116]⟩ : ByteArray).size ≤ 60; decide, by show (⟨#[115, 104, 111, 119]⟩ : ByteArray).size ≤ 60; decide⟩, by simp, fun i => by simp [dAt]⟩)
          refine hK.out _ _ ?_ (fun hHeld => ?_)
          · exact trivial
          clear hK K
          try simp only [Act.put, List.getElem_toArray, List.getElem_cons_zero, List.getElem_cons_succ, List.setIfInBounds_toArray, List.set_cons_zero, List.set_cons_succ]
          refine wpAnyH_take (i := 8) (oi := _) (v := ?_) rfl (by kernel_rfl) (by kernel_rfl) (by kernel_rfl) (fun _ _ _ h => h) (Or.inl ⟨by rfl, ?_⟩) (by with_reducible assumption) ?_
          rotate_left
          · intro Wz hSw
            clear hSw
            go_simp
            all_goals (with_reducible rfl)
          try simp only [Act.put, List.getElem_toArray, List.getElem_cons_zero, List.getElem_cons_succ, List.setIfInBounds_toArray, List.set_cons_zero, List.set_cons_succ]
          refine wpAnyH_ready (rs := [9]) (by kernel_rfl) (by simp) ?_
          refine AllReadyH.cons (o := _) rfl (fun K hK => ?_) AllReadyH.nil
          go_simp
          refine hK.out _ _ ?_ (fun hHeld => ?_)
          · exact trivial
          clear hK K
          try simp only [Act.put, List.getElem_toArray, List.getElem_cons_zero, List.getElem_cons_succ, List.setIfInBounds_toArray, List.set_cons_zero, List.set_cons_succ]
          refine wpAnyH_done (by kernel_rfl) ?_ _
          refine NoPanic.normal ?_
          clear hown hgr hat y6 fz6 lx hone D2 GM
          go_upto_region 17 with fail
          generalize hw9 : W7.setCell ⟨xp, 6, none⟩ (.slice (some x8) (m + 1) c8) = W9 at *
          obtain ⟨-, d0, d1, d2, d3, d4, d5, d6, -⟩ := D9.out.box
          obtain ⟨-, e0, e1, e2, e3, e4, e5, e6, -⟩ := D9.out.res
          have g0 := D9.out.res.fz 0 (by decide)
          have g1 := D9.out.res.fz 1 (by decide)
          have g2 := D9.out.res.fz 2 (by decide)
          have g3 := D9.out.res.fz 3 (by decide)
          have g4 := D9.out.res.fz 4 (by decide)
          have g5 := D9.out.res.fz 5 (by decide)
          have g6 := D9.out.res.fz 6 (by decide)
          obtain ⟨Zx, Zs, Zg, Zo⟩ := D9.out.done
          have z0 := Zx.c0
          have z1 := Zx.c1
          have z2 := Zx.c2
          have z3 := Zx.c3
          have z4 := Zx.c4
          have z5 := Zx.c5
          have z6 := Zx.c6
          have GI := Lib.hid ((G8.out.onlyX Zo (fun g e hp => by have := hRow8 g e; rcases hp with hp | hp | hp | hp <;> omega) (fun i hi y hy hn hp => by have := hAts8 i hi y hy hn; rcases hp with hp | hp | hp | hp <;> omega)).base (B' := w.heap.size) (by omega))
          have ZS := Lib.hid Zs
          have ZG := Lib.hid Zg
          clear Zx Zo Zs Zg
          go_wp2
          refine bodyPost_ret (v := .agg #[.int .i64 yk, .string yf, .string yt, .int .i64 ys, .string yu, .int .i64 yp, .slice (some x8) (m + 1) c8]) (by simp [results, Tryz.results28, go_sem, z0, z1, z2, z3, z4, z5, z6, e0, e1, e2, e3, e4, e5, e6]) rfl (by unfold PrBent; exact ⟨⟨yk, yf, yt, ys, yu, yp, l ++ [(⟨d, ⟨#[]⟩, ⟨#[106, 97, 98, 98, 101, 114, 58, 99, 108, 105, 101, 110, 116]⟩, ⟨#[115, 104, 111, 119]⟩, []⟩ : It)]⟩, x8, m + 1, c8, _, _, _, k1 + 1 + 1, rfl, GI.out, by omega, ⟨⟨by show -1000 ≤ (yk : Int); omega, by show (yk : Int) ≤ 1000; omega⟩, by show yf.size ≤ 61; omega, by show yt.size ≤ 61; omega, ⟨by show -1000 ≤ (ys : Int); omega, by show (ys : Int) ≤ 1000; omega⟩, by show yu.size ≤ 61; omega, ⟨by show -1000 ≤ (yp : Int); omega, by show (yp : Int) ≤ 1000; omega⟩, by show (l ++ [(⟨d, ⟨#[]⟩, ⟨#[106, 97, 98, 98, 101, 114, 58, 99, 108, 105, 101, 110, 116]⟩, ⟨#[115, 104, 111, 119]⟩, []⟩ : It)]).length ≤ 60; rw [List.length_append, hlm]; show m + 1 ≤ 60; omega, HD8.out⟩, by omega, ZS.out, ZG.out⟩)
        · have DN := Lib.hid (D2.out.below (below1 W2 (.cells #[.int .i64 d, .string ⟨#[]⟩, .string ⟨#[106, 97, 98, 98, 101, 114, 58, 99, 108, 105, 101, 110, 116]⟩, .string ⟨#[115, 104, 111, 119]⟩, .slice none 0 0] 54)))
          have hone := itCells W2 (.int .i64 d) (.string ⟨#[]⟩) (.string ⟨#[106, 97, 98, 98, 101, 114, 58, 99, 108, 105, 101, 110, 116]⟩) (.string ⟨#[115, 104, 111, 119]⟩) (.slice none 0 0)
          go_simp
          refine hK.out _ _ ?_ (fun hHeld => ?_)
          · exact trivial
          clear hK K
          try simp only [Act.put, List.getElem_toArray, List.getElem_cons_zero, List.getElem_cons_succ, List.setIfInBounds_toArray, List.set_cons_zero, List.set_cons_succ]
          clear D2
          have D2 := DN
          clear DN
          generalize W2.heap.size = ob at hone ⊢
          generalize W2.alloc (.cells #[.int .i64 d, .string ⟨#[]⟩, .string ⟨#[106, 97, 98, 98, 101, 114, 58, 99, 108, 105, 101, 110, 116]⟩, .string ⟨#[115, 104, 111, 119]⟩, .slice none 0 0] 54) = W2b at *
          obtain ⟨W2, hW2⟩ : ∃ W2, W2 = W2b := ⟨_, rfl⟩
          subst hW2
          refine wpAnyH_ready (rs := [1]) (by kernel_rfl) (by simp) ?_
          refine AllReadyH.cons (o := _) rfl (fun K hK => ?_) AllReadyH.nil
          have y6 := D2.out.box.c6
          go_simp
          refine hK.out _ _ ?_ (fun hHeld => ?_)
          · exact trivial
          clear hK K
          try simp only [Act.put, List.getElem_toArray, List.getElem_cons_zero, List.getElem_cons_succ, List.setIfInBounds_toArray, List.set_cons_zero, List.set_cons_succ]
          clear y6
          have GW := (GM.out.onlyP D2.out.on (fun i h1 h2 hp => by rcases hp with e | e | e | e <;> omega))
          have hsB : w.heap.size + 1 ≤ W2.heap.size := by have := D2.out.gr.size; have := GW.row.lt; have := D2.out.res.lt; omega
          refine wpAnyH_ready (rs := [7]) (by kernel_rfl) (by simp) ?_
          refine AllReadyH.cons (o := _) rfl (fun K hK => ?_) AllReadyH.nil
          refine step_own_at (by rfl) _ _ 24 rfl 54 i0 (.agg #[.int .i64 0, .string ByteArray.empty, .string ByteArray.empty, .string ByteArray.empty, .slice none 0 0]) 5 80 Tryz.underlying24 hi hz0 hi1 hz2 rfl (by decide) (w.heap.size + 1) _ m _ (by rfl) GW.row ⟨ob, 0, none⟩ 1 1 [.int .i64 d, .string ⟨#[]⟩, .string ⟨#[106, 97, 98, 98, 101, 114, 58, 99, 108, 105, 101, 110, 116]⟩, .string ⟨#[115, 104, 111, 119]⟩, .slice none 0 0] (by rfl) rfl hone (by intro v hv; simp at hv; rcases hv with rfl | rfl | rfl | rfl | rfl <;> rfl) (by unfold maxLen; omega) (by omega) hsB ?_
          intro v' W7 hown hgr hat
          obtain ⟨a8, c8, rfl⟩ := owns_slice hown
          obtain ⟨x8, rfl⟩ := owns_some hown (by omega)
          have hrow : ∀ g, (Value.slice (some x) m q).ownBlock = some g → w.heap.size + 1 ≤ g ∧ g ≠ xp := fun g e => by have h1 := GM.out.row.lt g e; omega
          have G8 := Lib.hid (GW.snoc (x := (⟨d, ⟨#[]⟩, ⟨#[106, 97, 98, 98, 101, 114, 58, 99, 108, 105, 101, 110, 116]⟩, ⟨#[115, 104, 111, 119]⟩, []⟩ : It)) (Below.refl _ _) (noAts0 _ _ _) (fun _ => rfl) hsB hown hgr (hat.imp id fun e => ⟨W2.heap.size, e, Nat.le_refl _⟩))
          have D8 := Lib.hid (D2.out.regrow hgr (fun g e => by have := hrow g e; omega))
          have hRow8 : ∀ g, (Value.slice (some x8) (m + 1) c8).ownBlock = some g → w.heap.size + 1 ≤ g ∧ g < W7.heap.size ∧ g ≠ xp := fun g e => ⟨(G8.out.row.lt g e).1, (G8.out.row.lt g e).2, by
            rcases hat with h | h
            · rw [h] at e
              exact (hrow g e).2
            · rw [h] at e
              simp only [Option.some.injEq] at e
              have := D2.out.box.lt
              omega⟩
          have hAts8 : ∀ i, i < (l ++ [(⟨d, ⟨#[]⟩, ⟨#[106, 97, 98, 98, 101, 114, 58, 99, 108, 105, 101, 110, 116]⟩, ⟨#[115, 104, 111, 119]⟩, []⟩ : It)]).length → ∀ y, (putA l.length none A) i = some y → (putA l.length 0 N) i ≠ 0 → w.heap.size + 1 ≤ y.block ∧ y.block < xp := fun i hi y hy hn => by
            unfold putA at hy hn
            by_cases e : i = l.length
            · rw [if_pos e] at hy
              cases hy
            · rw [if_neg e] at hy hn
              rw [List.length_append] at hi
              simp only [List.length_cons, List.length_nil] at hi
              have := (GM.out.ats i (by omega)).1.in hy hn
              omega
          have hx7 : xp < W7.heap.size := D8.out.box.lt
          have y6 := D8.out.box.c6
          have fz6 := D8.out.box.fz 6 (by decide)
          have lx := D8.out.box.lt
          have D9 : Hid (D7 w W7 (W7.setCell ⟨xp, 6, none⟩ (.slice (some x8) (m + 1) c8)) b a n c xs (k1 + 1 + 1) xp (.int .i64 yk) (.string yf) (.string yt) (.int .i64 ys) (.string yu) (.int .i64 yp) (.slice (some x8) (m + 1) c8)) := Lib.hid (D8.out.set 6 (.slice (some x8) (m + 1) c8) (by decide) ⟨rfl, rfl, rfl, rfl, rfl, rfl, rfl⟩)
          have HD8 := Lib.hid (drawn_snoc HD5.out (x := (⟨d, ⟨#[]⟩, ⟨#[106, 97, 98, 98, 101, 114, 58, 99, 108, 105, 101, 110, 116]⟩, ⟨#[115, 104, 111, 119]⟩, []⟩ : It)) ⟨⟨by show (0 : Int) ≤ d; omega, by show d ≤ (6 : Int); omega⟩, ⟨by show (⟨#[]⟩ : ByteArray).size ≤ 60; decide, by show (⟨#[106, 97, 98, 98, 101, 114, 58, 99, 108, 105, 101, 110, 116]⟩ : ByteArray).size ≤ 60; decide, by show (⟨#[115, 104, 111, 119]⟩ : ByteArray).size ≤ 60; decide⟩, by simp, fun i => by simp [dAt]⟩)
          refine hK.out _ _ ?_ (fun hHeld => ?_)
          · exact trivial
          clear hK K
          try simp only [Act.put, List.getElem_toArray, List.getElem_cons_zero, List.getElem_cons_succ, List.setIfInBounds_toArray, List.set_cons_zero, List.set_cons_succ]
          refine wpAnyH_take (i := 8) (oi := _) (v := ?_) rfl (by kernel_rfl) (by kernel_rfl) (by kernel_rfl) (fun _ _ _ h => h) (Or.inl ⟨by rfl, ?_⟩) (by with_reducible assumption) ?_
          rotate_left
          · intro Wz hSw
            clear hSw
            go_simp
            all_goals (with_reducible rfl)
          try simp only [Act.put, List.getElem_toArray, List.getElem_cons_zero, List.getElem_cons_succ, List.setIfInBounds_toArray, List.set_cons_zero, List.set_cons_succ]
          refine wpAnyH_ready (rs := [9]) (by kernel_rfl) (by simp) ?_
          refine AllReadyH.cons (o := _) rfl (fun K hK => ?_) AllReadyH.nil
          go_simp
          refine hK.out _ _ ?_ (fun hHeld => ?_)
          · exact trivial
          clear hK K
          try simp only [Act.put, List.getElem_toArray, List.getElem_cons_zero, List.getElem_cons_succ, List.setIfInBounds_toArray, List.set_cons_zero, List.set_cons_succ]
          refine wpAnyH_done (by kernel_rfl) ?_ _
          refine NoPanic.normal ?_
          clear hown hgr hat y6 fz6 lx hone D2 GM
          go_upto_region 17 with fail
          generalize hw9 : W7.setCell ⟨xp, 6, none⟩ (.slice (some x8) (m + 1) c8) = W9 at *
          obtain ⟨-, d0, d1, d2, d3, d4, d5, d6, -⟩ := D9.out.box
          obtain ⟨-, e0, e1, e2, e3, e4, e5, e6, -⟩ := D9.out.res
          have g0 := D9.out.res.fz 0 (by decide)
          have g1 := D9.out.res.fz 1 (by decide)
          have g2 := D9.out.res.fz 2 (by decide)
          have g3 := D9.out.res.fz 3 (by decide)
          have g4 := D9.out.res.fz 4 (by decide)
          have g5 := D9.out.res.fz 5 (by decide)
          have g6 := D9.out.res.fz 6 (by decide)
          obtain ⟨Zx, Zs, Zg, Zo⟩ := D9.out.done
          have z0 := Zx.c0
          have z1 := Zx.c1
          have z2 := Zx.c2
          have z3 := Zx.c3
          have z4 := Zx.c4
          have z5 := Zx.c5
          have z6 := Zx.c6
          have GI := Lib.hid ((G8.out.onlyX Zo (fun g e hp => by have := hRow8 g e; rcases hp with hp | hp | hp | hp <;> omega) (fun i hi y hy hn hp => by have := hAts8 i hi y hy hn; rcases hp with hp | hp | hp | hp <;> omega)).base (B' := w.heap.size) (by omega))
          have ZS := Lib.hid Zs
          have ZG := Lib.hid Zg
          clear Zx Zo Zs Zg
          go_wp2
          refine bodyPost_ret (v := .agg #[.int .i64 yk, .string yf, .string yt, .int .i64 ys, .string yu, .int .i64 yp, .slice (some x8) (m + 1) c8]) (by simp [results, Tryz.results28, go_sem, z0, z1, z2, z3, z4, z5, z6, e0, e1, e2, e3, e4, e5, e6]) rfl (by unfold PrBent; exact ⟨⟨yk, yf, yt, ys, yu, yp, l ++ [(⟨d, ⟨#[]⟩, ⟨#[106, 97, 98, 98, 101, 114, 58, 99, 108, 105, 101, 110, 116]⟩, ⟨#[115, 104, 111, 119]⟩, []⟩ : It)]⟩, x8, m + 1, c8, _, _, _, k1 + 1 + 1, rfl, GI.out, by omega, ⟨⟨by show -1000 ≤ (yk : Int); omega, by show (yk : Int) ≤ 1000; omega⟩, by show yf.size ≤ 61; omega, by show yt.size ≤ 61; omega, ⟨by show -1000 ≤ (ys : Int); omega, by show (ys : Int) ≤ 1000; omega⟩, by show yu.size ≤ 61; omega, ⟨by show -1000 ≤ (yp : Int); omega, by show (yp : Int) ≤ 1000; omega⟩, by show (l ++ [(⟨d, ⟨#[]⟩, ⟨#[106, 97, 98, 98, 101, 114, 58, 99, 108, 105, 101, 110, 116]⟩, ⟨#[115, 104, 111, 119]⟩, []⟩ : It)]).length ≤ 60; rw [List.length_append, hlm]; show m + 1 ≤ 60; omega, HD8.out⟩, by omega, ZS.out, ZG.out⟩)
  by_cases t5 : tt = 5
  · subst t5
    go_wp2_with fail
    refine wp_region_noPanic ?_
    refine wp_region_held_drew (S := (fun _ => True)) (by kernel_rfl) ?_ (fun hHeld => ?_)
    · exact trivial
    have DN := Lib.hid (D2.out.below ((Below.refl W2.heap.size W2).drew))
    clear D2
    have D2 := DN
    clear DN
    generalize W2.drew = W2b at *
    obtain ⟨W2, hW2⟩ : ∃ W2, W2 = W2b := ⟨_, rfl⟩
    subst hW2
    refine wpAnyH_take (i := 0) (oi := _) (v := ?_) rfl (by kernel_rfl) (by kernel_rfl) (by kernel_rfl) (fun _ _ _ h => h) (Or.inl ⟨by rfl, ?_⟩) (by with_reducible assumption) ?_
    rotate_left
    · intro Wz hSw
      clear hSw
      go_simp
      all_goals (with_reducible rfl)
    try simp only [Act.put, List.getElem_toArray, List.getElem_cons_zero, List.getElem_cons_succ, List.setIfInBounds_toArray, List.set_cons_zero, List.set_cons_succ]
    refine wpAnyH_take (i := 2) (oi := _) (v := ?_) rfl (by kernel_rfl) (by kernel_rfl) (by kernel_rfl) (fun _ _ _ h => h) (Or.inl ⟨by rfl, ?_⟩) (by with_reducible assumption) ?_
    rotate_left
    · intro Wz hSw
      clear hSw
      go_simp
      all_goals (with_reducible rfl)
    try simp only [Act.put, List.getElem_toArray, List.getElem_cons_zero, List.getElem_cons_succ, List.setIfInBounds_toArray, List.set_cons_zero, List.set_cons_succ]
    refine wpAnyH_ready (rs := [1, 3]) (by kernel_rfl) (by simp) ?_
    refine AllReadyH.cons (o := _) rfl (fun K hK => ?_) (AllReadyH.cons (o := _) rfl (fun K hK => ?_) AllReadyH.nil)
    · have y6 := D2.out.box.c6
      go_simp
      refine hK.out _ _ ?_ (fun hHeld => ?_)
      · exact trivial
      clear hK K
      try simp only [Act.put, List.getElem_toArray, List.getElem_cons_zero, List.getElem_cons_succ, List.setIfInBounds_toArray, List.set_cons_zero, List.set_cons_succ]
      clear y6
      refine wpAnyH_ready (rs := [3]) (by kernel_rfl) (by simp) ?_
      refine AllReadyH.cons (o := _) rfl (fun K hK => ?_) AllReadyH.nil
      have DN := Lib.hid (D2.out.below (below1 W2 (.cells #[.int .i64 1, .int .i64 21] 2)))
      have HR : Hid (Row (W2.alloc (.cells #[.int .i64 1, .int .i64 21] 2)) .i64 (.slice (some ⟨W2.heap.size, 0, none⟩) 2 2) [1, 21]) := Lib.hid (lit_row W2 2 .i64 [1, 21] 2 rfl (by decide))
      have hlb : W2.heap.size ≠ b := by have := D2.out.src.lt; omega
      go_simp
      refine hK.out _ _ ?_ (fun hHeld => ?_)
      · exact trivial
      clear hK K
      try simp only [Act.put, List.getElem_toArray, List.getElem_cons_zero, List.getElem_cons_succ, List.setIfInBounds_toArray, List.set_cons_zero, List.set_cons_succ]
      clear D2
      have D2 := DN
      clear DN
      generalize W2.heap.size = lb at HR hlb ⊢
      generalize W2.alloc (.cells #[.int .i64 1, .int .i64 21] 2) = W2b at *
      obtain ⟨W2, hW2⟩ : ∃ W2, W2 = W2b := ⟨_, rfl⟩
      subst hW2
      refine wpAnyH_ready (rs := [4]) (by kernel_rfl) (by simp) ?_
      refine AllReadyH.cons (o := _) rfl (fun K hK => ?_) AllReadyH.nil
      have KP := l1Pick_any b a n c xs (k1 + 1) lb 2 [1, 21] rfl (by decide) (by decide) (by omega) _ D2.out.src HR.out hlb
      unfold PickRes at KP
      go_simp
      refine KP.mono ?_
      clear KP HR
      rintro e W3 ⟨d, rfl, hdm, hs, hg⟩
      obtain ⟨kk, rfl, hkk0, hkk⟩ : ∃ kk : Nat, d = (kk : Int) ∧ 0 < kk ∧ kk ≤ 21 := by
        simp only [List.mem_cons, List.not_mem_nil, or_false] at hdm
        rcases hdm with rfl | rfl
        · exact ⟨1, rfl, by decide, by decide⟩
        · exact ⟨21, rfl, by decide, by decide⟩
      have DN := Lib.hid (D2.out.call hs hg)
      clear hs hg hdm D2
      have D2 := DN
      clear DN
      go_wp2_with fail
      refine hK.out _ _ ?_ (fun hHeld => ?_)
      · exact trivial
      clear hK K
      try simp only [Act.put, List.getElem_toArray, List.getElem_cons_zero, List.getElem_cons_succ, List.setIfInBounds_toArray, List.set_cons_zero, List.set_cons_succ]
      obtain ⟨W2, hW2⟩ : ∃ W2, W2 = W3 := ⟨_, rfl⟩
      subst hW2
      have GW := (GM.out.onlyP D2.out.on (fun i h1 h2 hp => by rcases hp with e | e | e | e <;> omega))
      have hsB : w.heap.size + 1 ≤ W2.heap.size := by have := D2.out.gr.size; have := D2.out.res.lt; omega
      refine wpAnyH_ready (rs := [5]) (by kernel_rfl) (by simp) ?_
      refine AllReadyH.cons (o := _) rfl (fun K hK => ?_) AllReadyH.nil
      refine step_zeros (by rfl) _ _ 24 2 rfl (w.heap.size + 1) 54 i0 (.agg #[.int .i64 0, .string ByteArray.empty, .string ByteArray.empty, .string ByteArray.empty, .slice none 0 0]) 5 80 .i64 .i64 Tryz.underlying24 Tryz.underlying2 hi hz0 hi1 hz2 rfl (by decide) _ m _ (by rfl) GW.row (.inr ⟨x, q, rfl⟩) kk (by rfl) hkk0 (zeros_one kk) (by unfold maxLen; omega) (by omega) hsB ?_
      intro v' W7 hown hgr hat
      obtain ⟨a8, c8, rfl⟩ := owns_slice hown
      obtain ⟨x8, rfl⟩ := owns_some hown (by omega)
      have hrow : ∀ g, (Value.slice (some x) m q).ownBlock = some g → w.heap.size + 1 ≤ g ∧ g ≠ xp := fun g e => by have h1 := GM.out.row.lt g e; omega
      have G8 := Lib.hid (grow_more GW (zeros_at kk) hsB hown hgr hat)
      have D8 := Lib.hid (D2.out.regrow hgr (fun g e => by have := hrow g e; omega))
      have hRow8 : ∀ g, (Value.slice (some x8) (m + kk) c8).ownBlock = some g → w.heap.size + 1 ≤ g ∧ g < W7.heap.size ∧ g ≠ xp := fun g e => ⟨(G8.out.row.lt g e).1, (G8.out.row.lt g e).2, by
        rcases hat with h | h
        · rw [h] at e
          exact (hrow g e).2
        · rw [h] at e
          simp only [Option.some.injEq] at e
          have := D2.out.box.lt
          omega⟩
      have hAts8 : ∀ i, i < (l ++ List.replicate kk dIt).length → ∀ y, (joinA l.length A (fun _ => none)) i = some y → (joinA l.length N (fun _ => 0)) i ≠ 0 → w.heap.size + 1 ≤ y.block ∧ y.block < xp := fun i hi y hy hn => by
        unfold joinA at hy hn
        by_cases e : i < l.length
        · rw [if_pos e] at hy hn
          have := (GM.out.ats i e).1.in hy hn
          omega
        · rw [if_neg e] at hy
          cases hy
      have hx7 : xp < W7.heap.size := D8.out.box.lt
      have y6 := D8.out.box.c6
      have fz6 := D8.out.box.fz 6 (by decide)
      have lx := D8.out.box.lt
      have D9 : Hid (D7 w W7 (W7.setCell ⟨xp, 6, none⟩ (.slice (some x8) (m + kk) c8)) b a n c xs (k1 + 1 + 1) xp (.int .i64 yk) (.string yf) (.string yt) (.int .i64 ys) (.string yu) (.int .i64 yp) (.slice (some x8) (m + kk) c8)) := Lib.hid (D8.out.set 6 (.slice (some x8) (m + kk) c8) (by decide) ⟨rfl, rfl, rfl, rfl, rfl, rfl, rfl⟩)
      have HD8 := Lib.hid (drawn_more HD5.out kk)
      refine hK.out _ _ ?_ (fun hHeld => ?_)
      · exact trivial
      clear hK K
      try simp only [Act.put, List.getElem_toArray, List.getElem_cons_zero, List.getElem_cons_succ, List.setIfInBounds_toArray, List.set_cons_zero, List.set_cons_succ]
      refine wpAnyH_take (i := 6) (oi := _) (v := ?_) rfl (by kernel_rfl) (by kernel_rfl) (by kernel_rfl) (fun _ _ _ h => h) (Or.inl ⟨by rfl, ?_⟩) (by with_reducible assumption) ?_
      rotate_left
      · intro Wz hSw
        clear hSw
        go_simp
        all_goals (with_reducible rfl)
      try simp only [Act.put, List.getElem_toArray, List.getElem_cons_zero, List.getElem_cons_succ, List.setIfInBounds_toArray, List.set_cons_zero, List.set_cons_succ]
      refine wpAnyH_ready (rs := [7]) (by kernel_rfl) (by simp) ?_
      refine AllReadyH.cons (o := _) rfl (fun K hK => ?_) AllReadyH.nil
      go_simp
      refine hK.out _ _ ?_ (fun hHeld => ?_)
      · exact trivial
      clear hK K
      try simp only [Act.put, List.getElem_toArray, List.getElem_cons_zero, List.getElem_cons_succ, List.setIfInBounds_toArray, List.set_cons_zero, List.set_cons_succ]
      refine wpAnyH_done (by kernel_rfl) ?_ _
      refine NoPanic.normal ?_
      clear hown hgr hat y6 fz6 lx D2 GM
      go_upto_region 17 with fail
      generalize hw9 : W7.setCell ⟨xp, 6, none⟩ (.slice (some x8) (m + kk) c8) = W9 at *
      obtain ⟨-, d0, d1, d2, d3, d4, d5, d6, -⟩ := D9.out.box
      obtain ⟨-, e0, e1, e2, e3, e4, e5, e6, -⟩ := D9.out.res
      have g0 := D9.out.res.fz 0 (by decide)
      have g1 := D9.out.res.fz 1 (by decide)
      have g2 := D9.out.res.fz 2 (by decide)
      have g3 := D9.out.res.fz 3 (by decide)
      have g4 := D9.out.res.fz 4 (by decide)
      have g5 := D9.out.res.fz 5 (by decide)
      have g6 := D9.out.res.fz 6 (by decide)
      obtain ⟨Zx, Zs, Zg, Zo⟩ := D9.out.done
      have z0 := Zx.c0
      have z1 := Zx.c1
      have z2 := Zx.c2
      have z3 := Zx.c3
      have z4 := Zx.c4
      have z5 := Zx.c5
      have z6 := Zx.c6
      have GI := Lib.hid ((G8.out.onlyX Zo (fun g e hp => by have := hRow8 g e; rcases hp with hp | hp | hp | hp <;> omega) (fun i hi y hy hn hp => by have := hAts8 i hi y hy hn; rcases hp with hp | hp | hp | hp <;> omega)).base (B' := w.heap.size) (by omega))
      have ZS := Lib.hid Zs
      have ZG := Lib.hid Zg
      clear Zx Zo Zs Zg
      go_wp2
      refine bodyPost_ret (v := .agg #[.int .i64 yk, .string yf, .string yt, .int .i64 ys, .string yu, .int .i64 yp, .slice (some x8) (m + kk) c8]) (by simp [results, Tryz.results28, go_sem, z0, z1, z2, z3, z4, z5, z6, e0, e1, e2, e3, e4, e5, e6]) rfl (by unfold PrBent; exact ⟨⟨yk, yf, yt, ys, yu, yp, l ++ List.replicate kk dIt⟩, x8, m + kk, c8, _, _, _, k1 + 1 + 1, rfl, GI.out, by omega, ⟨⟨by show -1000 ≤ (yk : Int); omega, by show (yk : Int) ≤ 1000; omega⟩, by show yf.size ≤ 61; omega, by show yt.size ≤ 61; omega, ⟨by show -1000 ≤ (ys : Int); omega, by show (ys : Int) ≤ 1000; omega⟩, by show yu.size ≤ 61; omega, ⟨by show -1000 ≤ (yp : Int); omega, by show (yp : Int) ≤ 1000; omega⟩, by show (l ++ List.replicate kk dIt).length ≤ 60; rw [List.length_append, List.length_replicate, hlm]; omega, HD8.out⟩, by omega, ZS.out, ZG.out⟩)
    · have DN := Lib.hid (D2.out.below (below1 W2 (.cells #[.int .i64 1, .int .i64 21] 2)))
      have HR : Hid (Row (W2.alloc (.cells #[.int .i64 1, .int .i64 21] 2)) .i64 (.slice (some ⟨W2.heap.size, 0, none⟩) 2 2) [1, 21]) := Lib.hid (lit_row W2 2 .i64 [1, 21] 2 rfl (by decide))
      have hlb : W2.heap.size ≠ b := by have := D2.out.src.lt; omega
      go_simp
      refine hK.out _ _ ?_ (fun hHeld => ?_)
      · exact trivial
      clear hK K
      try simp only [Act.put, List.getElem_toArray, List.getElem_cons_zero, List.getElem_cons_succ, List.setIfInBounds_toArray, List.set_cons_zero, List.set_cons_succ]
      clear D2
      have D2 := DN
      clear DN
      generalize W2.heap.size = lb at HR hlb ⊢
      generalize W2.alloc (.cells #[.int .i64 1, .int .i64 21] 2) = W2b at *
      obtain ⟨W2, hW2⟩ : ∃ W2, W2 = W2b := ⟨_, rfl⟩
      subst hW2
      refine wpAnyH_ready (rs := [1, 4]) (by kernel_rfl) (by simp) ?_
      refine AllReadyH.cons (o := _) rfl (fun K hK => ?_) (AllReadyH.cons (o := _) rfl (fun K hK => ?_) AllReadyH.nil)
      · have y6 := D2.out.box.c6
        go_simp
        refine hK.out _ _ ?_ (fun hHeld => ?_)
        · exact trivial
        clear hK K
        try simp only [Act.put, List.getElem_toArray, List.getElem_cons_zero, List.getElem_cons_succ, List.setIfInBounds_toArray, List.set_cons_zero, List.set_cons_succ]
        clear y6
        refine wpAnyH_ready (rs := [4]) (by kernel_rfl) (by simp) ?_
        refine AllReadyH.cons (o := _) rfl (fun K hK => ?_) AllReadyH.nil
        have KP := l1Pick_any b a n c xs (k1 + 1) lb 2 [1, 21] rfl (by decide) (by decide) (by omega) _ D2.out.src HR.out hlb
        unfold PickRes at KP
        go_simp
        refine KP.mono ?_
        clear KP HR
        rintro e W3 ⟨d, rfl, hdm, hs, hg⟩
        obtain ⟨kk, rfl, hkk0, hkk⟩ : ∃ kk : Nat, d = (kk : Int) ∧ 0 < kk ∧ kk ≤ 21 := by
          simp only [List.mem_cons, List.not_mem_nil, or_false] at hdm
          rcases hdm with rfl | rfl
          · exact ⟨1, rfl, by decide, by decide⟩
          · exact ⟨21, rfl, by decide, by decide⟩
        have DN := Lib.hid (D2.out.call hs hg)
        clear hs hg hdm D2
        have D2 := DN
        clear DN
        go_wp2_with fail
        refine hK.out _ _ ?_ (fun hHeld => ?_)
        · exact trivial
        clear hK K
        try simp only [Act.put, List.getElem_toArray, List.getElem_cons_zero, List.getElem_cons_succ, List.setIfInBounds_toArray, List.set_cons_zero, List.set_cons_succ]
        obtain ⟨W2, hW2⟩ : ∃ W2, W2 = W3 := ⟨_, rfl⟩
        subst hW2
        have GW := (GM.out.onlyP D2.out.on (fun i h1 h2 hp => by rcases hp with e | e | e | e <;> omega))
        have hsB : w.heap.size + 1 ≤ W2.heap.size := by have := D2.out.gr.size; have := D2.out.res.lt; omega
        refine wpAnyH_ready (rs := [5]) (by kernel_rfl) (by simp) ?_
        refine AllReadyH.cons (o := _) rfl (fun K hK => ?_) AllReadyH.nil
        refine step_zeros (by rfl) _ _ 24 2 rfl (w.heap.size + 1) 54 i0 (.agg #[.int .i64 0, .string ByteArray.empty, .string ByteArray.empty, .string ByteArray.empty, .slice none 0 0]) 5 80 .i64 .i64 Tryz.underlying24 Tryz.underlying2 hi hz0 hi1 hz2 rfl (by decide) _ m _ (by rfl) GW.row (.inr ⟨x, q, rfl⟩) kk (by rfl) hkk0 (zeros_one kk) (by unfold maxLen; omega) (by omega) hsB ?_
        intro v' W7 hown hgr hat
        obtain ⟨a8, c8, rfl⟩ := owns_slice hown
        obtain ⟨x8, rfl⟩ := owns_some hown (by omega)
        have hrow : ∀ g, (Value.slice (some x) m q).ownBlock = some g → w.heap.size + 1 ≤ g ∧ g ≠ xp := fun g e => by have h1 := GM.out.row.lt g e; omega
        have G8 := Lib.hid (grow_more GW (zeros_at kk) hsB hown hgr hat)
        have D8 := Lib.hid (D2.out.regrow hgr (fun g e => by have := hrow g e; omega))
        have hRow8 : ∀ g, (Value.slice (some x8) (m + kk) c8).ownBlock = some g → w.heap.size + 1 ≤ g ∧ g < W7.heap.size ∧ g ≠ xp := fun g e => ⟨(G8.out.row.lt g e).1, (G8.out.row.lt g e).2, by
          rcases hat with h | h
          · rw [h] at e
            exact (hrow g e).2
          · rw [h] at e
            simp only [Option.some.injEq] at e
            have := D2.out.box.lt
            omega⟩
        have hAts8 : ∀ i, i < (l ++ List.replicate kk dIt).length → ∀ y, (joinA l.length A (fun _ => none)) i = some y → (joinA l.length N (fun _ => 0)) i ≠ 0 → w.heap.size + 1 ≤ y.block ∧ y.block < xp := fun i hi y hy hn => by
          unfold joinA at hy hn
          by_cases e : i < l.length
          · rw [if_pos e] at hy hn
            have := (GM.out.ats i e).1.in hy hn
            omega
          · rw [if_neg e] at hy
            cases hy
        have hx7 : xp < W7.heap.size := D8.out.box.lt
        have y6 := D8.out.box.c6
        have fz6 := D8.out.box.fz 6 (by decide)
        have lx := D8.out.box.lt
        have D9 : Hid (D7 w W7 (W7.setCell ⟨xp, 6, none⟩ (.slice (some x8) (m + kk) c8)) b a n c xs (k1 + 1 + 1) xp (.int .i64 yk) (.string yf) (.string yt) (.int .i64 ys) (.string yu) (.int .i64 yp) (.slice (some x8) (m + kk) c8)) := Lib.hid (D8.out.set 6 (.slice (some x8) (m + kk) c8) (by decide) ⟨rfl, rfl, rfl, rfl, rfl, rfl, rfl⟩)
        have HD8 := Lib.hid (drawn_more HD5.out kk)
        refine hK.out _ _ ?_ (fun hHeld => ?_)
        · exact trivial
        clear hK K
        try simp only [Act.put, List.getElem_toArray, List.getElem_cons_zero, List.getElem_cons_succ, List.setIfInBounds_toArray, List.set_cons_zero, List.set_cons_succ]
        refine wpAnyH_take (i := 6) (oi := _) (v := ?_) rfl (by kernel_rfl) (by kernel_rfl) (by kernel_rfl) (fun _ _ _ h => h) (Or.inl ⟨by rfl, ?_⟩) (by with_reducible assumption) ?_
        rotate_left
        · intro Wz hSw
          clear hSw
          go_simp
          all_goals (with_reducible rfl)
        try simp only [Act.put, List.getElem_toArray, List.getElem_cons_zero, List.getElem_cons_succ, List.setIfInBounds_toArray, List.set_cons_zero, List.set_cons_succ]
        refine wpAnyH_ready (rs := [7]) (by kernel_rfl) (by simp) ?_
        refine AllReadyH.cons (o := _) rfl (fun K hK => ?_) AllReadyH.nil
        go_simp
        refine hK.out _ _ ?_ (fun hHeld => ?_)
        · exact trivial
        clear hK K
        try simp only [Act.put, List.getElem_toArray, List.getElem_cons_zero, List.getElem_cons_succ, List.setIfInBounds_toArray, List.set_cons_zero, List.set_cons_succ]
        refine wpAnyH_done (by kernel_rfl) ?_ _
        refine NoPanic.normal ?_
        clear hown hgr hat y6 fz6 lx D2 GM
        go_upto_region 17 with fail
        generalize hw9 : W7.setCell ⟨xp, 6, none⟩ (.slice (some x8) (m + kk) c8) = W9 at *
        obtain ⟨-, d0, d1, d2, d3, d4, d5, d6, -⟩ := D9.out.box
        obtain ⟨-, e0, e1, e2, e3, e4, e5, e6, -⟩ := D9.out.res
        have g0 := D9.out.res.fz 0 (by decide)
        have g1 := D9.out.res.fz 1 (by decide)
        have g2 := D9.out.res.fz 2 (by decide)
        have g3 := D9.out.res.fz 3 (by decide)
        have g4 := D9.out.res.fz 4 (by decide)
        have g5 := D9.out.res.fz 5 (by decide)
        have g6 := D9.out.res.fz 6 (by decide)
        obtain ⟨Zx, Zs, Zg, Zo⟩ := D9.out.done
        have z0 := Zx.c0
        have z1 := Zx.c1
        have z2 := Zx.c2
        have z3 := Zx.c3
        have z4 := Zx.c4
        have z5 := Zx.c5
        have z6 := Zx.c6
        have GI := Lib.hid ((G8.out.onlyX Zo (fun g e hp => by have := hRow8 g e; rcases hp with hp | hp | hp | hp <;> omega) (fun i hi y hy hn hp => by have := hAts8 i hi y hy hn; rcases hp with hp | hp | hp | hp <;> omega)).base (B' := w.heap.size) (by omega))
        have ZS := Lib.hid Zs
        have ZG := Lib.hid Zg
        clear Zx Zo Zs Zg
        go_wp2
        refine bodyPost_ret (v := .agg #[.int .i64 yk, .string yf, .string yt, .int .i64 ys, .string yu, .int .i64 yp, .slice (some x8) (m + kk) c8]) (by simp [results, Tryz.results28, go_sem, z0, z1, z2, z3, z4, z5, z6, e0, e1, e2, e3, e4, e5, e6]) rfl (by unfold PrBent; exact ⟨⟨yk, yf, yt, ys, yu, yp, l ++ List.replicate kk dIt⟩, x8, m + kk, c8, _, _, _, k1 + 1 + 1, rfl, GI.out, by omega, ⟨⟨by show -1000 ≤ (yk : Int); omega, by show (yk : Int) ≤ 1000; omega⟩, by show yf.size ≤ 61; omega, by show yt.size ≤ 61; omega, ⟨by show -1000 ≤ (ys : Int); omega, by show (ys : Int) ≤ 1000; omega⟩, by show yu.size ≤ 61; omega, ⟨by show -1000 ≤ (yp : Int); omega, by show (yp : Int) ≤ 1000; omega⟩, by show (l ++ List.replicate kk dIt).length ≤ 60; rw [List.length_append, List.length_replicate, hlm]; omega, HD8.out⟩, by omega, ZS.out, ZG.out⟩)
      · have KP := l1Pick_any b a n c xs (k1 + 1) lb 2 [1, 21] rfl (by decide) (by decide) (by omega) _ D2.out.src HR.out hlb
        unfold PickRes at KP
        go_simp
        refine KP.mono ?_
        clear KP HR
        rintro e W3 ⟨d, rfl, hdm, hs, hg⟩
        obtain ⟨kk, rfl, hkk0, hkk⟩ : ∃ kk : Nat, d = (kk : Int) ∧ 0 < kk ∧ kk ≤ 21 := by
          simp only [List.mem_cons, List.not_mem_nil, or_false] at hdm
          rcases hdm with rfl | rfl
          · exact ⟨1, rfl, by decide, by decide⟩
          · exact ⟨21, rfl, by decide, by decide⟩
        have DN := Lib.hid (D2.out.call hs hg)
        clear hs hg hdm D2
        have D2 := DN
        clear DN
        go_wp2_with fail
        refine hK.out _ _ ?_ (fun hHeld => ?_)
        · exact trivial
        clear hK K
        try simp only [Act.put, List.getElem_toArray, List.getElem_cons_zero, List.getElem_cons_succ, List.setIfInBounds_toArray, List.set_cons_zero, List.set_cons_succ]
        obtain ⟨W2, hW2⟩ : ∃ W2, W2 = W3 := ⟨_, rfl⟩
        subst hW2
        refine wpAnyH_ready (rs := [1]) (by kernel_rfl) (by simp) ?_
        refine AllReadyH.cons (o := _) rfl (fun K hK => ?_) AllReadyH.nil
        have y6 := D2.out.box.c6
        go_simp
        refine hK.out _ _ ?_ (fun hHeld => ?_)
        · exact trivial
        clear hK K
        try simp only [Act.put, List.getElem_toArray, List.getElem_cons_zero, List.getElem_cons_succ, List.setIfInBounds_toArray, List.set_cons_zero, List.set_cons_succ]
        clear y6
        have GW := (GM.out.onlyP D2.out.on (fun i h1 h2 hp => by rcases hp with e | e | e | e <;> omega))
        have hsB : w.heap.size + 1 ≤ W2.heap.size := by have := D2.out.gr.size; have := D2.out.res.lt; omega
        refine wpAnyH_ready (rs := [5]) (by kernel_rfl) (by simp) ?_
        refine AllReadyH.cons (o := _) rfl (fun K hK => ?_) AllReadyH.nil
        refine step_zeros (by rfl) _ _ 24 2 rfl (w.heap.size + 1) 54 i0 (.agg #[.int .i64 0, .string ByteArray.empty, .string ByteArray.empty, .string ByteArray.empty, .slice none 0 0]) 5 80 .i64 .i64 Tryz.underlying24 Tryz.underlying2 hi hz0 hi1 hz2 rfl (by decide) _ m _ (by rfl) GW.row (.inr ⟨x, q, rfl⟩) kk (by rfl) hkk0 (zeros_one kk) (by unfold maxLen; omega) (by omega) hsB ?_
        intro v' W7 hown hgr hat
        obtain ⟨a8, c8, rfl⟩ := owns_slice hown
        obtain ⟨x8, rfl⟩ := owns_some hown (by omega)
        have hrow : ∀ g, (Value.slice (some x) m q).ownBlock = some g → w.heap.size + 1 ≤ g ∧ g ≠ xp := fun g e => by have h1 := GM.out.row.lt g e; omega
        have G8 := Lib.hid (grow_more GW (zeros_at kk) hsB hown hgr hat)
        have D8 := Lib.hid (D2.out.regrow hgr (fun g e => by have := hrow g e; omega))
        have hRow8 : ∀ g, (Value.slice (some x8) (m + kk) c8).ownBlock = some g → w.heap.size + 1 ≤ g ∧ g < W7.heap.size ∧ g ≠ xp := fun g e => ⟨(G8.out.row.lt g e).1, (G8.out.row.lt g e).2, by
          rcases hat with h | h
          · rw [h] at e
            exact (hrow g e).2
          · rw [h] at e
            simp only [Option.some.injEq] at e
            have := D2.out.box.lt
            omega⟩
        have hAts8 : ∀ i, i < (l ++ List.replicate kk dIt).length → ∀ y, (joinA l.length A (fun _ => none)) i = some y → (joinA l.length N (fun _ => 0)) i ≠ 0 → w.heap.size + 1 ≤ y.block ∧ y.block < xp := fun i hi y hy hn => by
          unfold joinA at hy hn
          by_cases e : i < l.length
          · rw [if_pos e] at hy hn
            have := (GM.out.ats i e).1.in hy hn
            omega
          · rw [if_neg e] at hy
            cases hy
        have hx7 : xp < W7.heap.size := D8.out.box.lt
        have y6 := D8.out.box.c6
        have fz6 := D8.out.box.fz 6 (by decide)
        have lx := D8.out.box.lt
        have D9 : Hid (D7 w W7 (W7.setCell ⟨xp, 6, none⟩ (.slice (some x8) (m + kk) c8)) b a n c xs (k1 + 1 + 1) xp (.int .i64 yk) (.string yf) (.string yt) (.int .i64 ys) (.string yu) (.int .i64 yp) (.slice (some x8) (m + kk) c8)) := Lib.hid (D8.out.set 6 (.slice (some x8) (m + kk) c8) (by decide) ⟨rfl, rfl, rfl, rfl, rfl, rfl, rfl⟩)
        have HD8 := Lib.hid (drawn_more HD5.out kk)
        refine hK.out _ _ ?_ (fun hHeld => ?_)
        · exact trivial
        clear hK K
        try simp only [Act.put, List.getElem_toArray, List.getElem_cons_zero, List.getElem_cons_succ, List.setIfInBounds_toArray, List.set_cons_zero, List.set_cons_succ]
        refine wpAnyH_take (i := 6) (oi := _) (v := ?_) rfl (by kernel_rfl) (by kernel_rfl) (by kernel_rfl) (fun _ _ _ h => h) (Or.inl ⟨by rfl, ?_⟩) (by with_reducible assumption) ?_
        rotate_left
        · intro Wz hSw
          clear hSw
          go_simp
          all_goals (with_reducible rfl)
        try simp only [Act.put, List.getElem_toArray, List.getElem_cons_zero, List.getElem_cons_succ, List.setIfInBounds_toArray, List.set_cons_zero, List.set_cons_succ]
        refine wpAnyH_ready (rs := [7]) (by kernel_rfl) (by simp) ?_
        refine AllReadyH.cons (o := _) rfl (fun K hK => ?_) AllReadyH.nil
        go_simp
        refine hK.out _ _ ?_ (fun hHeld => ?_)
        · exact trivial
        clear hK K
        try simp only [Act.put, List.getElem_toArray, List.getElem_cons_zero, List.getElem_cons_succ, List.setIfInBounds_toArray, List.set_cons_zero, List.set_cons_succ]
        refine wpAnyH_done (by kernel_rfl) ?_ _
        refine NoPanic.normal ?_
        clear hown hgr hat y6 fz6 lx D2 GM
        go_upto_region 17 with fail
        generalize hw9 : W7.setCell ⟨xp, 6, none⟩ (.slice (some x8) (m + kk) c8) = W9 at *
        obtain ⟨-, d0, d1, d2, d3, d4, d5, d6, -⟩ := D9.out.box
        obtain ⟨-, e0, e1, e2, e3, e4, e5, e6, -⟩ := D9.out.res
        have g0 := D9.out.res.fz 0 (by decide)
        have g1 := D9.out.res.fz 1 (by decide)
        have g2 := D9.out.res.fz 2 (by decide)
        have g3 := D9.out.res.fz 3 (by decide)
        have g4 := D9.out.res.fz 4 (by decide)
        have g5 := D9.out.res.fz 5 (by decide)
        have g6 := D9.out.res.fz 6 (by decide)
        obtain ⟨Zx, Zs, Zg, Zo⟩ := D9.out.done
        have z0 := Zx.c0
        have z1 := Zx.c1
        have z2 := Zx.c2
        have z3 := Zx.c3
        have z4 := Zx.c4
        have z5 := Zx.c5
        have z6 := Zx.c6
        have GI := Lib.hid ((G8.out.onlyX Zo (fun g e hp => by have := hRow8 g e; rcases hp with hp | hp | hp | hp <;> omega) (fun i hi y hy hn hp => by have := hAts8 i hi y hy hn; rcases hp with hp | hp | hp | hp <;> omega)).base (B' := w.heap.size) (by omega))
        have ZS := Lib.hid Zs
        have ZG := Lib.hid Zg
        clear Zx Zo Zs Zg
        go_wp2
        refine bodyPost_ret (v := .agg #[.int .i64 yk, .string yf, .string yt, .int .i64 ys, .string yu, .int .i64 yp, .slice (some x8) (m + kk) c8]) (by simp [results, Tryz.results28, go_sem, z0, z1, z2, z3, z4, z5, z6, e0, e1, e2, e3, e4, e5, e6]) rfl (by unfold PrBent; exact ⟨⟨yk, yf, yt, ys, yu, yp, l ++ List.replicate kk dIt⟩, x8, m + kk, c8, _, _, _, k1 + 1 + 1, rfl, GI.out, by omega, ⟨⟨by show -1000 ≤ (yk : Int); omega, by show (yk : Int) ≤ 1000; omega⟩, by show yf.size ≤ 61; omega, by show yt.size ≤ 61; omega, ⟨by show -1000 ≤ (ys : Int); omega, by show (ys : Int) ≤ 1000; omega⟩, by show yu.size ≤ 61; omega, ⟨by show -1000 ≤ (yp : Int); omega, by show (yp : Int) ≤ 1000; omega⟩, by show (l ++ List.replicate kk dIt).length ≤ 60; rw [List.length_append, List.length_replicate, hlm]; omega, HD8.out⟩, by omega, ZS.out, ZG.out⟩)
  by_cases t6 : tt = 6
  · subst t6
    have c1 := D2.out.box.c1
    have f1 := D2.out.box.fz 1 (by decide)
    have lx := D2.out.box.lt
    have D4 := Lib.hid (D2.out.set 1 (.string ⟨#[97, 98, 99, 100, 101, 102, 103, 104, 105, 106, 107, 108, 109, 110, 111, 112, 113, 114, 115, 116, 117, 118, 119, 120, 121, 122, 97, 98, 99, 100, 101, 102, 103, 104, 105, 106, 107, 108, 109, 110, 111, 112, 113, 114, 115, 116, 117, 118, 119, 120, 121, 122, 97, 98, 99, 100, 101, 102, 103, 104, 105]⟩) (by decide) ⟨rfl, rfl, rfl, rfl, rfl, rfl, rfl⟩)
    go_upto_region 17 with fail
    generalize W2.setCell ⟨xp, 1, none⟩ (.string ⟨#[97, 98, 99, 100, 101, 102, 103, 104, 105, 106, 107, 108, 109, 110, 111, 112, 113, 114, 115, 116, 117, 118, 119, 120, 121, 122, 97, 98, 99, 100, 101, 102, 103, 104, 105, 106, 107, 108, 109, 110, 111, 112, 113, 114, 115, 116, 117, 118, 119, 120, 121, 122, 97, 98, 99, 100, 101, 102, 103, 104, 105]⟩) = W4 at *
    clear c1 f1 lx
    obtain ⟨-, d0, d1, d2, d3, d4, d5, d6, -⟩ := D4.out.box
    obtain ⟨-, e0, e1, e2, e3, e4, e5, e6, -⟩ := D4.out.res
    have g0 := D4.out.res.fz 0 (by decide)
    have g1 := D4.out.res.fz 1 (by decide)
    have g2 := D4.out.res.fz 2 (by decide)
    have g3 := D4.out.res.fz 3 (by decide)
    have g4 := D4.out.res.fz 4 (by decide)
    have g5 := D4.out.res.fz 5 (by decide)
    have g6 := D4.out.res.fz 6 (by decide)
    obtain ⟨Zx, Zs, Zg, Zo⟩ := D4.out.done
    have z0 := Zx.c0
    have z1 := Zx.c1
    have z2 := Zx.c2
    have z3 := Zx.c3
    have z4 := Zx.c4
    have z5 := Zx.c5
    have z6 := Zx.c6
    have GI := Lib.hid (D7.its GM.out Zo hb0 (by omega) hxs)
    have ZS := Lib.hid Zs
    have ZG := Lib.hid Zg
    clear Zx Zo Zs Zg
    go_wp2
    refine bodyPost_ret (v := .agg #[.int .i64 yk, .string ⟨#[97, 98, 99, 100, 101, 102, 103, 104, 105, 106, 107, 108, 109, 110, 111, 112, 113, 114, 115, 116, 117, 118, 119, 120, 121, 122, 97, 98, 99, 100, 101, 102, 103, 104, 105, 106, 107, 108, 109, 110, 111, 112, 113, 114, 115, 116, 117, 118, 119, 120, 121, 122, 97, 98, 99, 100, 101, 102, 103, 104, 105]⟩, .string yt, .int .i64 ys, .string yu, .int .i64 yp, .slice (some x) m q]) (by simp [results, Tryz.results28, go_sem, z0, z1, z2, z3, z4, z5, z6, e0, e1, e2, e3, e4, e5, e6]) rfl (by unfold PrBent; exact ⟨⟨yk, ⟨#[97, 98, 99, 100, 101, 102, 103, 104, 105, 106, 107, 108, 109, 110, 111, 112, 113, 114, 115, 116, 117, 118, 119, 120, 121, 122, 97, 98, 99, 100, 101, 102, 103, 104, 105, 106, 107, 108, 109, 110, 111, 112, 113, 114, 115, 116, 117, 118, 119, 120, 121, 122, 97, 98, 99, 100, 101, 102, 103, 104, 105]⟩, yt, ys, yu, yp, l⟩, x, m, q, A, N, C, k1 + 1, rfl, GI.out, by omega, ⟨⟨by show -1000 ≤ (yk : Int); omega, by show (yk : Int) ≤ 1000; omega⟩, by show (⟨#[97, 98, 99, 100, 101, 102, 103, 104, 105, 106, 107, 108, 109, 110, 111, 112, 113, 114, 115, 116, 117, 118, 119, 120, 121, 122, 97, 98, 99, 100, 101, 102, 103, 104, 105, 106, 107, 108, 109, 110, 111, 112, 113, 114, 115, 116, 117, 118, 119, 120, 121, 122, 97, 98, 99, 100, 101, 102, 103, 104, 105]⟩ : ByteArray).size ≤ 61; decide, by show yt.size ≤ 61; omega, ⟨by show -1000 ≤ (ys : Int); omega, by show (ys : Int) ≤ 1000; omega⟩, by show yu.size ≤ 61; omega, ⟨by show -1000 ≤ (yp : Int); omega, by show (yp : Int) ≤ 1000; omega⟩, by show l.length ≤ 60; omega, HD5.out⟩, by omega, ZS.out, ZG.out⟩)
  go_upto_region 17 with fail
  obtain ⟨-, d0, d1, d2, d3, d4, d5, d6, -⟩ := D2.out.box
  obtain ⟨-, e0, e1, e2, e3, e4, e5, e6, -⟩ := D2.out.res
  have g0 := D2.out.res.fz 0 (by decide)
  have g1 := D2.out.res.fz 1 (by decide)
  have g2 := D2.out.res.fz 2 (by decide)
  have g3 := D2.out.res.fz 3 (by decide)
  have g4 := D2.out.res.fz 4 (by decide)
  have g5 := D2.out.res.fz 5 (by decide)
  have g6 := D2.out.res.fz 6 (by decide)
  obtain ⟨Zx, Zs, Zg, Zo⟩ := D2.out.done
  have z0 := Zx.c0
  have z1 := Zx.c1
  have z2 := Zx.c2
  have z3 := Zx.c3
  have z4 := Zx.c4
  have z5 := Zx.c5
  have z6 := Zx.c6
  have GI := Lib.hid (D7.its GM.out Zo hb0 (by omega) hxs)
  have ZS := Lib.hid Zs
  have ZG := Lib.hid Zg
  clear Zx Zo Zs Zg
  go_wp2
  refine bodyPost_ret (v := .agg #[.int .i64 yk, .string yf, .string yt, .int .i64 ys, .string yu, .int .i64 yp, .slice (some x) m q]) (by simp [results, Tryz.results28, go_sem, z0, z1, z2, z3, z4, z5, z6, e0, e1, e2, e3, e4, e5, e6]) rfl (by unfold PrBent; exact ⟨⟨yk, yf, yt, ys, yu, yp, l⟩, x, m, q, A, N, C, k1 + 1, rfl, GI.out, by omega, ⟨⟨by show -1000 ≤ (yk : Int); omega, by show (yk : Int) ≤ 1000; omega⟩, by show yf.size ≤ 61; omega, by show yt.size ≤ 61; omega, ⟨by show -1000 ≤ (ys : Int); omega, by show (ys : Int) ≤ 1000; omega⟩, by show yu.size ≤ 61; omega, ⟨by show -1000 ≤ (yp : Int); omega, by show (yp : Int) ≤ 1000; omega⟩, by show l.length ≤ 60; omega, HD5.out⟩, by omega, ZS.out, ZG.out⟩)
end Go.Proofs.YtjkmgpomcnplnaaGreatDoor
