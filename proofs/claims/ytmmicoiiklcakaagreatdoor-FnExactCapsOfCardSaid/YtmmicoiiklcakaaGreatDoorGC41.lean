/- The fields of a code and a text. -/
import Derived.Test.YtmmicoiiklcakaaGreatDoorGC0
import Derived.Test.YtmmicoiiklcakaaGreatDoorGC37
import Derived.Test.YtmmicoiiklcakaaGreatDoorGC10
import Derived.Test.YtmmicoiiklcakaaGreatDoorGC5
namespace Go.Proofs.YtmmicoiiklcakaaGreatDoor
open Go.ChangeShapes Go.WideShapes Go.ChangeAt Go.RowKit
set_option linter.unusedVariables false
theorem field_code (c : Int) (t : ByteArray) (W : World) : (Instr.field 42 (.agg #[.int .i64 c, .string t]) 0).run Tryz.prog W = .ok (.int .i64 c) W := by kernel_rfl
theorem field_text (c : Int) (t : ByteArray) (W : World) : (Instr.field 42 (.agg #[.int .i64 c, .string t]) 1).run Tryz.prog W = .ok (.string t) W := by kernel_rfl
end Go.Proofs.YtmmicoiiklcakaaGreatDoor

/- The program's IdentityText. -/
namespace Go.Proofs.YtmmicoiiklcakaaGreatDoor
open Go.ChangeShapes Go.WideShapes Go.ChangeAt Go.RowKit
set_option linter.unusedVariables false

theorem join4 (a b c d : ByteArray) : (⟨(Lib.join ([a, b, c, d].map (·.data.toList)) slash.data.toList).toArray⟩ : ByteArray) = a ++ slash ++ b ++ slash ++ c ++ slash ++ d := by
  apply ByteArray.ext
  simp [Lib.join, ByteArray.data_append]
theorem join4_len (a b c d : ByteArray) (h1 : a.size ≤ 1048576) (h2 : b.size ≤ 1048576) (h3 : c.size ≤ 1048576) (h4 : d.size ≤ 1048576) : (Lib.join ([a, b, c, d].map (·.data.toList)) slash.data.toList).length ≤ 140737488355328 := by
  have e1 : a.data.toList.length = a.size := rfl
  have e2 : b.data.toList.length = b.size := rfl
  have e3 : c.data.toList.length = c.size := rfl
  have e4 : d.data.toList.length = d.size := rfl
  simp only [Lib.join, List.map_cons, List.map_nil, slash]
  simp
  omega

set_option maxHeartbeats 1600000 in
theorem implIdentityText_any (x : Ident) (w : World) (hs : SmallId x) (hT : Tabs w) :
    Calls Tryz.prog 49 #[.agg #[.string x.cat, .string x.kind, .string x.lang, .string x.name]] w (TxtRes w (idCode x) (idText x)) := by
  have B0 := below2 w (.cells #[.string x.cat, .string x.kind, .string x.lang, .string x.name] 54) (.cells #[.int .i64 0, .string { data := #[] }] 42)
  have K1 := Lib.hid (fun W (hb : Below w.heap.size w W) => hasFields_any x W hs (tabs_kept hT hb))
  have H0 : Hid (identB x = false → idCode x = 5 ∧ idText x = ByteArray.empty) := Lib.hid (fun h => by unfold idCode idText; simp [h])
  have H1 : Hid (identB x = true → idCode x = 0 ∧ idText x = x.cat ++ slash ++ x.kind ++ slash ++ x.lang ++ slash ++ x.name) := Lib.hid (fun h => by unfold idCode idText; simp [h, identT])
  unfold TxtRes
  generalize idCode x = cd at H0 H1 ⊢
  generalize idText x = tx at H0 H1 ⊢
  generalize identB x = bb at K1 H0 H1
  obtain ⟨s, t, u, v⟩ := x
  obtain ⟨h1, h2, h3, h4⟩ := hs
  dsimp only at K1 B0 H1 h1 h2 h3 h4 ⊢
  have HJ := Lib.hid (join4 s t u v)
  have HJL := Lib.hid (join4_len s t u v h1 h2 h3 h4)
  cases bb
  · obtain ⟨rfl, rfl⟩ := H0.out rfl
    clear H0 H1 hT HJ HJL
    go_enter Tryz.func49, Tryz.ntmps49
    go_wp2_with fail
    refine (K1.out _ B0).mono ?_
    rintro en w1 ⟨rfl, hb1⟩
    obtain ⟨hc1, hf1⟩ := bcell hb1
    have hz : w.heap.size + 1 < w1.heap.size := by have := hb1.size; simp at this; omega
    have B1 := Lib.hid (below_then B0 hb1)
    clear hb1
    go_wp2
    exact bodyPost_ret (v := .agg #[.int .i64 5, .string ByteArray.empty]) (by simp [results, Tryz.results49, go_sem, hc1]; rfl) rfl ⟨rfl, (B1.out.setCell (by simp) _).setCell (by simp) _⟩
  · obtain ⟨rfl, rfl⟩ := H1.out rfl
    clear H0 H1 hT
    go_enter Tryz.func49, Tryz.ntmps49
    go_wp2_with fail
    refine (K1.out _ B0).mono ?_
    rintro en w1 ⟨rfl, hb1⟩
    obtain ⟨hc1, hf1⟩ := bcell hb1
    have hz : w.heap.size + 1 < w1.heap.size := by have := hb1.size; simp at this; omega
    have HB1 := Lib.hid hb1
    have B1 := Lib.hid (below_then B0 hb1)
    clear hb1
    go_wp2_with fail
    have KJ := Lib.hid (Tryz.strings_Join w1.heap.size 0 4 [s, t, u, v] slash (w1.alloc (.cells #[.string s, .string t, .string u, .string v] 9)) (fun j y hj => by
      match j, hj with
      | 0, hj => simp at hj; subst hj; simp
      | 1, hj => simp at hj; subst hj; simp
      | 2, hj => simp at hj; subst hj; simp
      | 3, hj => simp at hj; subst hj; simp) (by simp) (by simp) (by simp) HJL.out)
    rw [HJ.out] at KJ
    refine KJ.out.mono ?_
    rintro en w2 ⟨rfl, hb2⟩
    have HB2 := below_then (below_then HB1.out (below1 w1 _)) hb2
    obtain ⟨hc1, hf1⟩ := bcell HB2
    have hz : w.heap.size + 1 < w2.heap.size := by have := HB2.size; simp at this; omega
    have B2 := Lib.hid (below_then B0 HB2)
    clear hb2 HB2 KJ
    go_wp2
    exact bodyPost_ret (v := .agg #[.int .i64 0, .string (s ++ slash ++ t ++ slash ++ u ++ slash ++ v)]) (by simp [results, Tryz.results49, go_sem, hc1]) rfl ⟨rfl, (B2.out.setCell (by simp) _).setCell (by simp) _⟩
end Go.Proofs.YtmmicoiiklcakaaGreatDoor
