/- Contracts of the model's l3Unescape and UnescapeText. -/
import Derived.Test.YtkpbamjmdcbflaaDoorSpecUn2
namespace Go.Proofs.YtkpbamjmdcbflaaDoor
open Go.ChangeShapes Go.WideShapes Go.ChangeAt Go.RowKit
set_option linter.unusedVariables false

theorem semi_amp (t : List UInt8) : semi (38 :: t) = semi t + 1 := by
  unfold semi
  rw [List.findIdx_cons]
  rfl
/-- how far the text is read -/
def Far (l : List UInt8) (n : Nat) (w : World) (vt vo : Value) (wr : World) : Prop :=
  ∃ (u o : ByteArray), vt = .string u ∧ vo = .string o ∧ u.size ≤ n ∧ o.size + 4 * u.size ≤ 4 * n ∧ unescL l = (unescL u.data.toList).map (o.data.toList ++ ·) ∧ Below w.heap.size w wr
def TextOk (t : List UInt8) (b : Bool) (w : World) (e : Ending) (w' : World) : Prop := e = .returned (.tuple #[.string (bst t), .bool b]) ∧ Below w.heap.size w w'
theorem cons_of {u : ByteArray} (h : 0 < u.size) : u.data.toList = u[0] :: u.data.toList.drop 1 := by
  have h1 : 0 < u.data.toList.length := by simpa using h
  have h2 := List.drop_eq_getElem_cons h1
  rw [List.drop_zero] at h2
  exact h2
theorem app_data (a b : ByteArray) : (a ++ b).data.toList = a.data.toList ++ b.data.toList := by simp
theorem ent_len (l : List UInt8) : (entL l).length ≤ 4 := by
  unfold entL
  split
  · exact (encodeRune_len _).2
  · simp

set_option maxRecDepth 100000 in
set_option maxHeartbeats 4000000 in
theorem l3Unescape_any (s : ByteArray) (hs : s.size ≤ 600) (w : World) (tx : List UInt8) (ok : Bool) (htx : tx = (unL s.data.toList).getD []) (hok : ok = (unL s.data.toList).isSome) :
    Calls Tryd.prog 7 #[.string s] w (TextOk tx ok w) := by
  have KC := Lib.hid (fun W => l1Chars_any s (by omega) W)
  have HTX := Lib.hid htx
  have HOK := Lib.hid hok
  clear htx hok
  cases hch : charsB s.data.toList
  · have hn : unL s.data.toList = none := by unfold unL; rw [hch]; rfl
    have e1 : tx = [] := by rw [HTX.out, hn]; rfl
    have e2 : ok = false := by rw [HOK.out, hn]; rfl
    subst e1
    subst e2
    rw [hch] at KC
    clear hch hn
    go_enter Tryd.func7, Tryd.ntmps7
    go_wp2_with fail
    refine (KC.out _).mono ?_
    rintro e w1 ⟨rfl, hb⟩
    go_wp2
    go_ret2
    exact ⟨rfl, hb⟩
  · have hn : unL s.data.toList = unescL s.data.toList := by unfold unL; rw [hch]; rfl
    rw [hn] at HTX HOK
    rw [hch] at KC
    clear hch hn
    go_enter Tryd.func7, Tryd.ntmps7
    go_wp2_with fail
    refine (KC.out _).mono ?_
    rintro e w1 ⟨rfl, hb⟩
    have HB1 := Lib.hid hb
    clear hb
    go_wp2
    go_loopw [0, 4] (fun vt vo wr => Far s.data.toList s.size w vt vo wr) (fun vt _ _ => strSize vt)
    case atStart => exact ⟨s, ⟨#[]⟩, rfl, rfl, Nat.le_refl _, by show 0 + _ ≤ _; omega, by simp, HB1.out⟩
    case round =>
      obtain ⟨u, o, rfl, rfl, hu, ho, hun, hb⟩ := hrel
      have hul : u.data.toList.length = u.size := by simp
      have HUN := Lib.hid hun
      have HB := Lib.hid hb
      clear hun hb
      by_cases h0 : 0 < u.size
      · have hcons := cons_of h0
        have hus : (u.size : Int) ≤ 600 := by omega
        have hos : (o.size : Int) ≤ 2400 := by omega
        have hu0 : (0 : Int) < (u.size : Int) := by omega
        have hdl : (u.data.toList.drop 1).length = u.size - 1 := by rw [List.length_drop, hul]
        have hex1 : (u.extract 1 u.size).data.toList = u.data.toList.drop 1 := Lib.extract_to_end _ _
        have hes1 : (u.extract 1 u.size).size = u.size - 1 := by rw [ByteArray.size_extract]; omega
        by_cases h60 : u[0] = 60
        · have hn : unescL s.data.toList = none := by rw [HUN.out, hcons, h60, unescL_lt]; rfl
          have e1 : tx = [] := by rw [HTX.out, hn]; rfl
          have e2 : ok = false := by rw [HOK.out, hn]; rfl
          subst e1
          subst e2
          have hb60 : ((u[0].toNat : Int) == 60) = true := by rw [h60]; rfl
          clear hn hcons h60 hdl hul hex1 hes1
          go_wp2
          go_ret2
          exact ⟨rfl, HB.out⟩
        · have hb60 : ((u[0].toNat : Int) == 60) = false := by
            rw [beq_eq_false_iff_ne]
            intro e
            exact h60 (UInt8.toNat_inj.1 (show u[0].toNat = (60 : UInt8).toNat by have : (60 : UInt8).toNat = 60 := rfl; omega))
          by_cases h38 : u[0] = 38
          · have hb38 : ((u[0].toNat : Int) == 38) = true := by rw [h38]; rfl
            have KS := Lib.hid (l3Semicolon_any u (by unfold maxLen; omega))
            rw [h38] at hcons
            have hsm : semi u.data.toList = semi (u.data.toList.drop 1) + 1 := by rw [← semi_amp, ← hcons]
            rw [hsm] at KS
            by_cases hf : semi (u.data.toList.drop 1) < u.size - 1
            · rw [if_pos (by omega)] at KS
              have hxe : (u.extract 1 (semi (u.data.toList.drop 1) + 1)).data.toList = (u.data.toList.drop 1).take (semi (u.data.toList.drop 1)) := by
                rw [Lib.extract_data, Nat.add_sub_cancel]
              have hxs : (u.extract 1 (semi (u.data.toList.drop 1) + 1)).size ≤ 600 := by rw [ByteArray.size_extract]; omega
              have KE := Lib.hid (l3Entity_any (u.extract 1 (semi (u.data.toList.drop 1) + 1)) (by unfold maxLen; omega))
              unfold TextIs at KE
              rw [hxe] at KE
              have hel := ent_len ((u.data.toList.drop 1).take (semi (u.data.toList.drop 1)))
              have hxr : (u.extract (semi (u.data.toList.drop 1) + 1 + 1) u.size).data.toList = (u.data.toList.drop 1).drop (semi (u.data.toList.drop 1) + 1) := by
                rw [Lib.extract_to_end, List.drop_drop, Nat.add_comm 1]
              have hxz : (u.extract (semi (u.data.toList.drop 1) + 1 + 1) u.size).size = u.size - (semi (u.data.toList.drop 1) + 2) := by rw [ByteArray.size_extract]; omega
              by_cases hen : entL ((u.data.toList.drop 1).take (semi (u.data.toList.drop 1))) = []
              · have hn : unescL s.data.toList = none := by
                  rw [HUN.out, hcons, unescL_amp0 _ (.inr hen)]
                  rfl
                have e1 : tx = [] := by rw [HTX.out, hn]; rfl
                have e2 : ok = false := by rw [HOK.out, hn]; rfl
                subst e1
                subst e2
                rw [hen] at KE
                generalize hm : semi (u.data.toList.drop 1) = m at *
                have c1 : (m : Int) + 1 ≤ (u.size : Int) := by omega
                have c2 : (1 : Int) ≤ (m : Int) + 1 := by omega
                clear hn hcons h60 h38 hdl hul hex1 hes1 hsm hxe hxr hxz hel hen hm hf
                go_wp2_with fail
                refine (KS.out _).mono ?_
                rintro e w' ⟨rfl, rfl⟩
                go_wp2_with fail
                refine (KE.out _).mono ?_
                rintro e w2 ⟨rfl, hb2⟩
                unfold bst
                go_wp2
                go_ret2
                exact ⟨rfl, HB.out.trans (hb2.mono HB.out.size)⟩
              · have hstep : ∀ e : ByteArray, e.data.toList = entL ((u.data.toList.drop 1).take (semi (u.data.toList.drop 1))) → unescL s.data.toList = (unescL (u.extract (semi (u.data.toList.drop 1) + 1 + 1) u.size).data.toList).map ((o ++ e).data.toList ++ ·) := by
                  intro e he
                  have h1 := HUN.out
                  rw [hcons, unescL_amp _ (by omega) hen, Option.map_map] at h1
                  rw [h1, hxr]
                  congr 1
                  funext x
                  rw [app_data, he, List.append_assoc]
                  rfl
                have HST := Lib.hid (hstep _ (bst_toList _))
                have hbe : (bst (entL ((u.data.toList.drop 1).take (semi (u.data.toList.drop 1))))).toList.isEmpty = false := by
                  rw [ByteArray.toList_eq, bst_toList]
                  cases hq : entL ((u.data.toList.drop 1).take (semi (u.data.toList.drop 1)))
                  · exact absurd hq hen
                  · rfl
                have hbs : (bst (entL ((u.data.toList.drop 1).take (semi (u.data.toList.drop 1))))).size ≤ 4 := hel
                generalize bst (entL ((u.data.toList.drop 1).take (semi (u.data.toList.drop 1)))) = en at KE HST hbe hbs
                have HXZ := Lib.hid hxz
                generalize hm : semi (u.data.toList.drop 1) = m at *
                have c1 : (m : Int) + 1 ≤ (u.size : Int) := by omega
                have c2 : (1 : Int) ≤ (m : Int) + 1 := by omega
                have c3 : (m : Int) + 1 + 1 ≤ (u.size : Int) := by omega
                have hsum : ¬ 9223372036854775807 < o.size + en.size := by omega
                have HS2 := Lib.hid (show (o ++ en).size = o.size + en.size from ByteArray.size_append)
                clear hcons h60 h38 hdl hul hex1 hes1 hsm hxe hxr hxz hel hen hm hf hstep
                go_wp2_with fail
                refine (KS.out _).mono ?_
                rintro e w' ⟨rfl, rfl⟩
                go_wp2_with fail
                refine (KE.out _).mono ?_
                rintro e w2 ⟨rfl, hb2⟩
                have HB2 := Lib.hid (HB.out.trans (hb2.mono HB.out.size))
                clear hb2
                go_wp2_with fail
                refine (KE.out _).mono ?_
                rintro e w3 ⟨rfl, hb3⟩
                have HB3 := Lib.hid (HB2.out.trans (hb3.mono HB2.out.size))
                clear hb3
                go_wp2
                go_roundw
                case rel => exact ⟨_, _, rfl, rfl, by rw [HXZ.out]; omega, by rw [HS2.out, HXZ.out]; omega, HST.out, HB3.out⟩
                case measure => simp only [strSize]; rw [HXZ.out]; omega
            · rw [if_neg (by omega)] at KS
              have hn : unescL s.data.toList = none := by
                rw [HUN.out, hcons, unescL_amp0 _ (.inl (by omega))]
                rfl
              have e1 : tx = [] := by rw [HTX.out, hn]; rfl
              have e2 : ok = false := by rw [HOK.out, hn]; rfl
              subst e1
              subst e2
              clear hn hcons h60 h38 hdl hul hex1 hes1 hsm hf
              go_wp2_with fail
              refine (KS.out _).mono ?_
              rintro e w' ⟨rfl, rfl⟩
              go_wp2
              go_ret2
              exact ⟨rfl, HB.out⟩
          · have hb38 : ((u[0].toNat : Int) == 38) = false := by
              rw [beq_eq_false_iff_ne]
              intro e
              exact h38 (UInt8.toNat_inj.1 (show u[0].toNat = (38 : UInt8).toNat by have : (38 : UInt8).toNat = 38 := rfl; omega))
            have hstep : unescL s.data.toList = (unescL (u.extract 1 u.size).data.toList).map ((o ++ u.extract 0 1).data.toList ++ ·) := by
              rw [HUN.out, hcons, unescL_cons _ _ h60 h38, hex1, Option.map_map]
              have ht : (u.extract 0 1).data.toList = [u[0]] := by rw [Lib.extract_data, List.drop_zero, hcons]; rfl
              congr 1
              funext x
              rw [app_data, ht, List.append_assoc]
              rfl
            have HST := Lib.hid hstep
            have hes : (u.extract 0 1).size = 1 := by rw [ByteArray.size_extract]; omega
            have hsum : ¬ 9223372036854775807 < o.size + (u.extract 0 1).size := by omega
            have hsz2 : (o ++ u.extract 0 1).size = o.size + 1 := by rw [ByteArray.size_append, hes]
            have HZ := Lib.hid hsz2
            have HE1 := Lib.hid hes1
            have h1u : (1 : Int) ≤ (u.size : Int) := by omega
            clear hstep hcons h60 h38 hdl hul hex1 hes1 hes hsz2
            go_wp2
            go_roundw
            case rel => exact ⟨_, _, rfl, rfl, by rw [HE1.out]; omega, by rw [HZ.out, HE1.out]; omega, HST.out, HB.out⟩
            case measure => simp only [strSize]; rw [HE1.out]; omega
      · have hn : unescL s.data.toList = some o.data.toList := by
          have he : u.data.toList = [] := List.eq_nil_of_length_eq_zero (by omega)
          rw [HUN.out, he, unescL_nil]
          simp
        have e1 : tx = o.data.toList := by rw [HTX.out, hn]; rfl
        have e2 : ok = true := by rw [HOK.out, hn]; rfl
        subst e2
        have HO := Lib.hid (bst_of e1.symm)
        have hu0 : (u.size : Int) ≤ 0 := by omega
        clear hn e1 hul
        go_wp2
        go_ret2
        exact ⟨congrArg (fun x => Ending.returned (Value.tuple #[Value.string x, Value.bool true])) HO.out, HB.out⟩

/-- a struct of a code and a text is handed back -/
def ResT' (w : World) (c : Int) (l : List UInt8) (e : Ending) (w' : World) : Prop := e = .returned (.agg #[.int .i64 c, .string (bst l)]) ∧ Below w.heap.size w w'

set_option maxHeartbeats 800000 in
/-- the model's UnescapeText -/
theorem specUnescape_any (s : ByteArray) (hs : s.size ≤ maxLen) (w : World) :
    Calls Tryd.prog 4 #[.string s] w (ResT' w (unCode s.data.toList) (unText s.data.toList)) := by
  have hl : s.data.toList.length = s.size := by simp
  unfold unCode unText
  rw [hl]
  by_cases h : 600 < s.size
  · rw [if_pos h, if_pos h]
    unfold maxLen at hs
    clear hl
    go_enter Tryd.func4, Tryd.ntmps4
    go_wp2
    exact bodyPost_ret (v := .agg #[.int .i64 2, .string (bst [])]) (by simp [results, Tryd.results4, go_sem, bst]) rfl ⟨rfl, below1 w _⟩
  · rw [if_neg h, if_neg h]
    have h' : (s.size : Int) ≤ 600 := by omega
    have K := Lib.hid (fun W => l3Unescape_any s (by omega) W _ _ rfl rfl)
    unfold TextOk at K
    clear hl h
    cases hu : unL s.data.toList with
    | none =>
      rw [hu] at K
      simp only [Option.isSome_none, Option.getD_none, Bool.false_eq_true, if_false] at K ⊢
      clear hu
      go_enter Tryd.func4, Tryd.ntmps4
      go_wp2_with fail
      refine (K.out _).mono ?_
      rintro e w1 ⟨rfl, hb⟩
      obtain ⟨hc, hf⟩ := bcell hb
      have hz := hb.size
      simp at hz
      go_wp2
      exact bodyPost_ret (v := .agg #[.int .i64 5, .string (bst [])]) (by simp [results, Tryd.results4, go_sem, bst, hc]) rfl
        ⟨rfl, (((below1 w _).trans (hb.mono (by simp))).setCell (p := ⟨w.heap.size, 0, none⟩) (Nat.le_refl _) _).setCell (p := ⟨w.heap.size, 1, none⟩) (Nat.le_refl _) _⟩
    | some t =>
      rw [hu] at K
      simp only [Option.isSome_some, Option.getD_some, if_true] at K ⊢
      clear hu
      generalize hv : bst t = v at K
      have HV := Lib.hid hv
      clear hv
      go_enter Tryd.func4, Tryd.ntmps4
      go_wp2_with fail
      refine (K.out _).mono ?_
      rintro e w1 ⟨rfl, hb⟩
      obtain ⟨hc, hf⟩ := bcell hb
      have hz := hb.size
      simp at hz
      go_wp2
      exact bodyPost_ret (v := .agg #[.int .i64 0, .string v]) (by simp [results, Tryd.results4, go_sem, hc]) rfl
        ⟨by rw [HV.out], (((below1 w _).trans (hb.mono (by simp))).setCell (p := ⟨w.heap.size, 0, none⟩) (Nat.le_refl _) _).setCell (p := ⟨w.heap.size, 1, none⟩) (Nat.le_refl _) _⟩
end Go.Proofs.YtkpbamjmdcbflaaDoor
