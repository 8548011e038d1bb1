/- Contracts of the characters' classes. -/
import Derived.Test.YtcaknhoaoodbfaaGreatDoorGP1
import Derived.Shelf.Strings.Builder1
import Derived.Shelf.Strings.Builder2
import Derived.Shelf.Strings.OnBuilder
import Derived.Shelf.Strings.BuilderF
import Derived.Shelf.Strings.BuilderK
import Derived.Shelf.Strconv.Itoa0
import Derived.Shelf.Strconv.Itoa1
import Derived.Shelf.LaysM
import Derived.Shelf.Strconv.Itoa2
import Derived.Shelf.Strconv.Itoa3
import Derived.Shelf.Strconv.Itoa4
import Derived.Shelf.Strings.Search1
import Derived.Shelf.Strings.Search2
import Derived.Shelf.Strings.Search3
import Derived.Shelf.Strings.Shaped
import Derived.Shelf.Strings.Prefix
import Derived.Shelf.Unicode.Decode
import Derived.Shelf.Unicode.DecodeSlow
import Derived.Shelf.Unicode.DecodeAny
import Derived.Test.YtcaknhoaoodbfaaGreatDoorProg
import Derived.Lib.RuneBytes
namespace Go.Proofs.YtcaknhoaoodbfaaGreatDoor
open Go.ChangeShapes Go.WideShapes Go.ChangeAt Go.RowKit
set_option linter.unusedVariables false
def pointB (p : Int) : Bool := inB p 0 1114111 && !inB p 55296 57343
def charB (p : Int) : Bool := decide (p = 9) || decide (p = 10) || (decide (32 ≤ p) && pointB p && decide (p ≠ 127) && decide (p ≠ 65534) && decide (p ≠ 65535))
theorem l1Point_any (p : Int) (w : World) :
    Calls Tryz.prog 221 #[.int .i64 p] w fun e w' => e = .returned (.bool (pointB p)) ∧ w' = w := by
  cases h : inB p 0 1114111
  all_goals
    go_enter Tryz.func221, Tryz.ntmps221
    go_wp2_with (go_at_call 70; refine (l1In_any _ _ _ _).mono ?_; rintro e w' ⟨rfl, rfl⟩)
    go_ret
    exact ⟨ret_bool (by simp [pointB, h]), rfl⟩
theorem pointB_spans (p : Int) : (inB p 0 55295 || inB p 57344 1114111) = pointB p := by
  rw [Bool.eq_iff_iff]
  simp [pointB, inB]
  omega
theorem isPoint_any (p : Int) (w : World) :
    Calls Tryz.prog 200 #[.int .i64 p] w fun e w' => e = .returned (.bool (pointB p)) ∧ Below w.heap.size w w' := by
  go_enter Tryz.func200, Tryz.ntmps200
  go_wp2_with fail
  refine (isIn_any p [(0, 55295), (57344, 1114111)] _ _ _ rfl (by decide) (by simp) ?_).mono ?_
  · intro i hi
    match i, hi with
    | 0, _ => simp
    | 1, _ => simp
  rintro e w' ⟨rfl, hb⟩
  go_wp2
  go_ret
  exact ⟨ret_bool (pointB_spans p), ((Below.refl _ _).alloc (Nat.le_refl _) _).trans (hb.mono (by simp))⟩
theorem charB_spans (p : Int) (h : pointB p = true) : (inB p 9 10 || (inB p 32 126 || (inB p 128 65533 || inB p 65536 1114111))) = charB p := by
  rw [Bool.eq_iff_iff]
  simp [charB, h]
  simp [pointB, inB] at h ⊢
  omega
theorem charB_point (p : Int) (h : pointB p = false) : charB p = false := by
  simp [charB, h]
  simp [pointB, inB] at h
  constructor <;> (rintro rfl; simp at h)
theorem implIsChar_any (p : Int) (w : World) :
    Calls Tryz.prog 142 #[.int .i64 p] w fun e w' => e = .returned (.bool (charB p)) ∧ Below w.heap.size w w' := by
  cases h : pointB p
  · go_enter Tryz.func142, Tryz.ntmps142
    go_wp2_with fail
    refine (isPoint_any p _).mono ?_
    rintro e w1 ⟨rfl, hb⟩
    go_wp2
    go_ret
    exact ⟨ret_bool (charB_point p h).symm, hb⟩
  · go_enter Tryz.func142, Tryz.ntmps142
    go_wp2_with fail
    refine (isPoint_any p _).mono ?_
    rintro e w1 ⟨rfl, hb⟩
    go_wp2_with fail
    refine (isIn_any p [(9, 10), (32, 126), (128, 65533), (65536, 1114111)] _ _ _ rfl (by decide) (by simp) ?_).mono ?_
    · intro i hi
      match i, hi with
      | 0, _ => simp
      | 1, _ => simp
      | 2, _ => simp
      | 3, _ => simp
    rintro e w2 ⟨rfl, hb2⟩
    go_wp2
    go_ret
    exact ⟨ret_bool (charB_spans p h), (hb.alloc hb.size _).trans (hb2.mono (by have := hb.size; simp; omega))⟩
theorem specIsChar_any (p : Int) (w : World) :
    Calls Tryz.prog 183 #[.int .i64 p] w fun e w' => e = .returned (.bool (charB p)) ∧ w' = w := by
  cases hq : pointB p
  all_goals
    go_enter Tryz.func183, Tryz.ntmps183
    go_wp2_with (go_at_call 221; refine (l1Point_any _ _).mono ?_; rintro e w' ⟨rfl, rfl⟩)
    all_goals
      go_ret
      exact ⟨ret_bool (by rw [Bool.eq_iff_iff]; simp [charB, hq] <;> omega), rfl⟩
end Go.Proofs.YtcaknhoaoodbfaaGreatDoor
namespace Go.Proofs
open Go.Shelf
def Tryz.lays170_ren : Go.Shelf.Ren := ⟨fun | 170 => 190 | n => n, fun | 70 => 174 | 3 => 3 | 0 => 0 | 72 => 176 | 37 => 22 | 5 => 5 | n => n, fun | n => n⟩
theorem Tryz.lays170 : Go.Proofs.Lays.n170 Tryz.prog Tryz.lays170_ren := {
  mixed := by kernel_rfl
  f170 := Tryz.func190.trans (congrArg some (by kernel_rfl))
  t0 := Tryz.underlying0
  a0 := Tryz.isAgg0
  z0 := Tryz.sizeOf0
  v0 := Tryz.zeroValue0
  t3 := Tryz.underlying3
  a3 := Tryz.isAgg3
  z3 := Tryz.sizeOf3
  v3 := Tryz.zeroValue3
  t37 := Tryz.underlying22
  a37 := Tryz.isAgg22
  z37 := Tryz.sizeOf22
  v37 := Tryz.zeroValue22
  t70 := Tryz.underlying174
  a70 := Tryz.isAgg174
  z70 := Tryz.sizeOf174
  v70 := Tryz.zeroValue174
  t72 := Tryz.underlying176
  a72 := Tryz.isAgg176
  z72 := Tryz.sizeOf176
  v72 := Tryz.zeroValue176 }
open Go.RowKit in
def Tryz.lays169_ren : Go.Shelf.Ren := ⟨fun | 169 => 163 | n => n, fun | 70 => 174 | 9 => 9 | 0 => 0 | 72 => 176 | 37 => 22 | 127 => 231 | 3 => 3 | 5 => 5 | n => n, fun | n => n⟩
theorem Tryz.lays169 : Go.Proofs.Lays.n169 Tryz.prog Tryz.lays169_ren := {
  mixed := by kernel_rfl
  f169 := Tryz.func163.trans (congrArg some (by kernel_rfl))
  t0 := Tryz.underlying0
  a0 := Tryz.isAgg0
  z0 := Tryz.sizeOf0
  v0 := Tryz.zeroValue0
  t3 := Tryz.underlying3
  a3 := Tryz.isAgg3
  z3 := Tryz.sizeOf3
  v3 := Tryz.zeroValue3
  t9 := Tryz.underlying9
  a9 := Tryz.isAgg9
  z9 := Tryz.sizeOf9
  v9 := Tryz.zeroValue9
  t37 := Tryz.underlying22
  a37 := Tryz.isAgg22
  z37 := Tryz.sizeOf22
  v37 := Tryz.zeroValue22
  t70 := Tryz.underlying174
  a70 := Tryz.isAgg174
  z70 := Tryz.sizeOf174
  v70 := Tryz.zeroValue174
  t72 := Tryz.underlying176
  a72 := Tryz.isAgg176
  z72 := Tryz.sizeOf176
  v72 := Tryz.zeroValue176
  t127 := Tryz.underlying231
  a127 := Tryz.isAgg231
  z127 := Tryz.sizeOf231
  v127 := Tryz.zeroValue231 }
theorem Tryz.Builder_Extra_169 : Builder.Extra Tryz.prog Tryz.lays169_ren := {
  sizeBuilder := by kernel_rfl
  liesBuilder := by kernel_rfl
  t5 := Tryz.underlying5
  a5 := Tryz.isAgg5
  z5 := Tryz.sizeOf5
  v5 := Tryz.zeroValue5
  infoByte := by kernel_rfl
  cellsByte := by kernel_rfl
  sizeByte := by kernel_rfl
  neB5 := by decide }
open Go.RowKit in
theorem Tryz.Builder_Len_f (B b : Nat) (bs : List Value) (w : World) (h : Lib.IsBuilderF 176 5 B b bs w) :
    Calls Tryz.prog 190 #[.pointer (some ⟨b, 0, none⟩)] w fun e w' => e = .returned (.int .i64 bs.length) ∧ w' = w := Any.Builder_Len_f Tryz.lays170 B b bs w h
open Go.RowKit in
theorem Tryz.Builder_String_any_f (B b : Nat) (l : List UInt8) (w : World) (h : Lib.IsBuilderF 176 5 B b (Lib.byteCells l) w) (hBw : B ≤ w.heap.size) :
    Calls Tryz.prog 163 #[.pointer (some ⟨b, 0, none⟩)] w fun e w' => e = .returned (.string ⟨l.toArray⟩) ∧ (Lib.IsBuilderF 176 5 B b (Lib.byteCells l) w' ∧ Below B w w') := Any.Builder_String_any_f Tryz.lays169 Tryz.Builder_Extra_169 B b l w h hBw
open Go.RowKit in
def Tryz.laysM173_ren : Go.Shelf.Ren := ⟨fun | 173 => 181 | 246 => 220 | 283 => 234 | 284 => 235 | 285 => 236 | 286 => 237 | 129 => 246 | 317 => 245 | 318 => 247 | 319 => 248 | 320 => 249 | 337 => 258 | 338 => 259 | n => n, fun | 2 => 2 | 3 => 3 | 9 => 9 | 4 => 4 | 171 => 255 | 0 => 0 | 53 => 192 | 37 => 22 | 5 => 5 | 173 => 258 | 212 => 269 | 51 => 187 | 20 => 20 | 213 => 270 | 46 => 196 | 232 => 288 | 233 => 289 | n => n, fun | 17 => 3 | 18 => 6 | 19 => 7 | n => n⟩
theorem Tryz.laysM173 : Go.Proofs.LaysM.n173 Tryz.prog Tryz.laysM173_ren := {
  mixed := by kernel_rfl
  f129 := Tryz.func246.trans (congrArg some (by kernel_rfl))
  f173 := Tryz.func181.trans (congrArg some (by kernel_rfl))
  f246 := Tryz.func220.trans (congrArg some (by kernel_rfl))
  f283 := Tryz.func234.trans (congrArg some (by kernel_rfl))
  f284 := Tryz.func235.trans (congrArg some (by kernel_rfl))
  f285 := Tryz.func236.trans (congrArg some (by kernel_rfl))
  f286 := Tryz.func237.trans (congrArg some (by kernel_rfl))
  f317 := Tryz.func245.trans (congrArg some (by kernel_rfl))
  f318 := Tryz.func247.trans (congrArg some (by kernel_rfl))
  f319 := Tryz.func248.trans (congrArg some (by kernel_rfl))
  f320 := Tryz.func249.trans (congrArg some (by kernel_rfl))
  f337 := Tryz.func258.trans (congrArg some (by kernel_rfl))
  f338 := Tryz.func259.trans (congrArg some (by kernel_rfl))
  t0 := Tryz.underlying0
  a0 := Tryz.isAgg0
  z0 := Tryz.sizeOf0
  v0 := Tryz.zeroValue0
  t2 := Tryz.underlying2
  a2 := Tryz.isAgg2
  z2 := Tryz.sizeOf2
  v2 := Tryz.zeroValue2
  t3 := Tryz.underlying3
  a3 := Tryz.isAgg3
  z3 := Tryz.sizeOf3
  v3 := Tryz.zeroValue3
  t4 := Tryz.underlying4
  a4 := Tryz.isAgg4
  z4 := Tryz.sizeOf4
  v4 := Tryz.zeroValue4
  t5 := Tryz.underlying5
  a5 := Tryz.isAgg5
  z5 := Tryz.sizeOf5
  v5 := Tryz.zeroValue5
  t9 := Tryz.underlying9
  a9 := Tryz.isAgg9
  z9 := Tryz.sizeOf9
  v9 := Tryz.zeroValue9
  t20 := Tryz.underlying20
  a20 := Tryz.isAgg20
  z20 := Tryz.sizeOf20
  v20 := Tryz.zeroValue20
  t37 := Tryz.underlying22
  a37 := Tryz.isAgg22
  z37 := Tryz.sizeOf22
  v37 := Tryz.zeroValue22
  t46 := Tryz.underlying196
  a46 := Tryz.isAgg196
  z46 := Tryz.sizeOf196
  v46 := Tryz.zeroValue196
  t51 := Tryz.underlying187
  a51 := Tryz.isAgg187
  z51 := Tryz.sizeOf187
  v51 := Tryz.zeroValue187
  t53 := Tryz.underlying192
  a53 := Tryz.isAgg192
  z53 := Tryz.sizeOf192
  v53 := Tryz.zeroValue192
  t171 := Tryz.underlying255
  a171 := Tryz.isAgg255
  z171 := Tryz.sizeOf255
  v171 := Tryz.zeroValue255
  t173 := Tryz.underlying258
  a173 := Tryz.isAgg258
  z173 := Tryz.sizeOf258
  v173 := Tryz.zeroValue258
  t212 := Tryz.underlying269
  a212 := Tryz.isAgg269
  z212 := Tryz.sizeOf269
  v212 := Tryz.zeroValue269
  t213 := Tryz.underlying270
  a213 := Tryz.isAgg270
  z213 := Tryz.sizeOf270
  t232 := Tryz.underlying288
  a232 := Tryz.isAgg288
  z232 := Tryz.sizeOf288
  v232 := Tryz.zeroValue288
  t233 := Tryz.underlying289
  a233 := Tryz.isAgg289
  z233 := Tryz.sizeOf289
  v233 := Tryz.zeroValue289
  g17 := by kernel_rfl
  g18 := by kernel_rfl
  g19 := by kernel_rfl
  i0 := by kernel_rfl
  i2 := by kernel_rfl
  i3 := by kernel_rfl
  i4 := by kernel_rfl
  i5 := by kernel_rfl
  i9 := by kernel_rfl
  i20 := by kernel_rfl
  i37 := by kernel_rfl
  i46 := by kernel_rfl
  i51 := by kernel_rfl
  i53 := by kernel_rfl
  i171 := by kernel_rfl
  i173 := by kernel_rfl
  i212 := by kernel_rfl
  i232 := by kernel_rfl
  i233 := by kernel_rfl
  m17 := by kernel_rfl
  m18 := by kernel_rfl
  m19 := by kernel_rfl }
open Go.RowKit Go.Sort Go.Lib in
theorem Tryz.strconv_FormatInt_10 (n : Int) (h0 : -9223372036854775808 ≤ n) (h1 : n ≤ 9223372036854775807) (w : World) (htab : Lib.TabIs Tryz.prog w "internal/strconv.uint64pow10" .u64 Lib.pow10Tab) :
    Calls Tryz.prog 181 #[.int .i64 n, .int .i64 10] w fun e w' => e = .returned (.string ⟨(Lib.itoa n).toArray⟩) ∧ ∃ k os, w' = grow (w.drewN k) os := Any.strconv_FormatInt_10 Tryz.laysM173 n h0 h1 w htab
def Tryz.lays101_ren : Go.Shelf.Ren := ⟨fun | 101 => 147 | 208 => 204 | 206 => 227 | n => n, fun | 9 => 9 | 4 => 4 | 3 => 3 | n => n, fun | n => n⟩
theorem Tryz.lays101 : Go.Proofs.Lays.n101 Tryz.prog Tryz.lays101_ren := {
  mixed := by kernel_rfl
  f101 := Tryz.func147.trans (congrArg some (by kernel_rfl))
  f206 := Tryz.func227.trans (congrArg some (by kernel_rfl))
  f208 := Tryz.func204.trans (congrArg some (by kernel_rfl))
  t3 := Tryz.underlying3
  a3 := Tryz.isAgg3
  z3 := Tryz.sizeOf3
  v3 := Tryz.zeroValue3
  t4 := Tryz.underlying4
  a4 := Tryz.isAgg4
  z4 := Tryz.sizeOf4
  v4 := Tryz.zeroValue4
  t9 := Tryz.underlying9
  a9 := Tryz.isAgg9
  z9 := Tryz.sizeOf9
  v9 := Tryz.zeroValue9 }
open Go.RowKit Go.Lib in
theorem Tryz.strings_TrimPrefix (s p : ByteArray) (w : World) :
    Calls Tryz.prog 147 #[.string s, .string p] w fun e w' => e = .returned (.string ⟨(Lib.trimPrefix s.data.toList p.data.toList).toArray⟩) ∧ w' = w := Any.strings_TrimPrefix Tryz.lays101 s p w
def Tryz.lays197_ren : Go.Shelf.Ren := ⟨fun | 197 => 199 | 260 => 225 | n => n, fun | 9 => 9 | 21 => 21 | 3 => 3 | 4 => 4 | 5 => 5 | 105 => 219 | 119 => 263 | 0 => 0 | 46 => 196 | 139 => 266 | 138 => 265 | n => n, fun | 3 => 0 | 4 => 1 | n => n⟩
theorem Tryz.lays197 : Go.Proofs.Lays.n197 Tryz.prog Tryz.lays197_ren := {
  mixed := by kernel_rfl
  f197 := Tryz.func199.trans (congrArg some (by kernel_rfl))
  f260 := Tryz.func225.trans (congrArg some (by kernel_rfl))
  t0 := Tryz.underlying0
  a0 := Tryz.isAgg0
  z0 := Tryz.sizeOf0
  v0 := Tryz.zeroValue0
  t3 := Tryz.underlying3
  a3 := Tryz.isAgg3
  z3 := Tryz.sizeOf3
  v3 := Tryz.zeroValue3
  t4 := Tryz.underlying4
  a4 := Tryz.isAgg4
  z4 := Tryz.sizeOf4
  v4 := Tryz.zeroValue4
  t5 := Tryz.underlying5
  a5 := Tryz.isAgg5
  z5 := Tryz.sizeOf5
  v5 := Tryz.zeroValue5
  t9 := Tryz.underlying9
  a9 := Tryz.isAgg9
  z9 := Tryz.sizeOf9
  v9 := Tryz.zeroValue9
  t21 := Tryz.underlying21
  a21 := Tryz.isAgg21
  z21 := Tryz.sizeOf21
  v21 := Tryz.zeroValue21
  t46 := Tryz.underlying196
  a46 := Tryz.isAgg196
  z46 := Tryz.sizeOf196
  v46 := Tryz.zeroValue196
  t105 := Tryz.underlying219
  a105 := Tryz.isAgg219
  z105 := Tryz.sizeOf219
  v105 := Tryz.zeroValue219
  t119 := Tryz.underlying263
  a119 := Tryz.isAgg263
  z119 := Tryz.sizeOf263
  t138 := Tryz.underlying265
  a138 := Tryz.isAgg265
  z138 := Tryz.sizeOf265
  v138 := Tryz.zeroValue265
  t139 := Tryz.underlying266
  a139 := Tryz.isAgg266
  z139 := Tryz.sizeOf266
  v139 := Tryz.zeroValue266
  g3 := by kernel_rfl
  g4 := by kernel_rfl }
open Go.RowKit Go.Lib in
theorem Tryz.utf8_DecodeRuneInString (s : ByteArray) (w : World) (hT : Lib.Utf8Tabs 0 1 w) :
    Calls Tryz.prog 199 #[.string s] w fun e w' => e = .returned (.tuple #[.int .i32 (Lib.decodeGo s).1, .int .i64 (Lib.decodeGo s).2]) ∧ Below w.heap.size w w' := Any.utf8_DecodeRuneInString Tryz.lays197 s w hT
end Go.Proofs
namespace Go.Proofs.YtcaknhoaoodbfaaGreatDoor
open Go.ChangeShapes Go.WideShapes Go.ChangeAt Go.RowKit
set_option linter.unusedVariables false
theorem point_of {p : Int} (h : pointB p = true) : (0 ≤ p ∧ p ≤ 1114111) ∧ ¬ (55296 ≤ p ∧ p ≤ 57343) := by
  simp [pointB, inB] at h
  omega
set_option maxHeartbeats 1600000 in
theorem l1Put_any (p : Int) (hp : pointB p = true) (w : World) :
    Calls Tryz.prog 184 #[.int .i64 p] w (OwnsRes w 5 .u8 (Lib.encodeRuneZ p)) := by
  obtain ⟨⟨h0, h1⟩, h2⟩ := point_of hp
  clear hp
  by_cases c1 : p < 128
  · go_enter Tryz.func184, Tryz.ntmps184
    go_wp2
    go_ret
    refine ⟨_, 1, _, rfl, ?_, below1 _ _⟩
    rw [Lib.encodeRuneZ_one h0 (by omega)]
    exact lit_owns w _ .u8 [p] 1 rfl (by decide)
  · by_cases c2 : p < 2048
    · have q1 : p / 64 < 32 := by omega
      have q2 : 0 ≤ p / 64 := by omega
      go_enter Tryz.func184, Tryz.ntmps184
      go_wp2
      go_ret
      refine ⟨_, 2, _, rfl, ?_, below1 _ _⟩
      rw [Lib.encodeRuneZ_two (by omega) (by omega)]
      exact lit_owns w _ .u8 [192 + p / 64, 128 + p % 64] 2 rfl (by decide)
    · by_cases c3 : p < 65536
      · have q1 : p / 4096 < 16 := by omega
        have q2 : 0 ≤ p / 4096 := by omega
        have q3 : 0 ≤ p / 64 := by omega
        go_enter Tryz.func184, Tryz.ntmps184
        go_wp2
        go_ret
        refine ⟨_, 3, _, rfl, ?_, below1 _ _⟩
        rw [Lib.encodeRuneZ_three (by omega)]
        exact lit_owns w _ .u8 [224 + p / 4096, 128 + p / 64 % 64, 128 + p % 64] 3 rfl (by decide)
      · have q1 : p / 262144 < 8 := by omega
        have q2 : 0 ≤ p / 262144 := by omega
        have q3 : 0 ≤ p / 64 := by omega
        have q4 : 0 ≤ p / 4096 := by omega
        go_enter Tryz.func184, Tryz.ntmps184
        go_wp2
        go_ret
        refine ⟨_, 4, _, rfl, ?_, below1 _ _⟩
        rw [Lib.encodeRuneZ_four (by omega) (by omega)]
        exact lit_owns w _ .u8 [240 + p / 262144, 128 + p / 4096 % 64, 128 + p / 64 % 64, 128 + p % 64] 4 rfl (by decide)
end Go.Proofs.YtcaknhoaoodbfaaGreatDoor
namespace Go.Proofs.YtcaknhoaoodbfaaGreatDoor
open Go.ChangeShapes Go.WideShapes Go.ChangeAt Go.RowKit
set_option linter.unusedVariables false
theorem u8Info : (Tryz.prog.info? 5).map (fun i => (i.zero, i.size, i.bytes)) = some (some (.int .u8 0), 1, 1) := by kernel_rfl
theorem step_appended {w wr w1 : World} {b base : Nat} {o : Obj} {v : Value} {e : TypeId} {size n : Nat} {xs : List Value} (h : w.grownBy wr (some b)) (hb : w.heap.size ≤ base) (ho : wr.ownsRow base e size v n xs) (hg : (wr.alloc o).grownBy w1 v.ownBlock) : w.grownBy w1 (some b) := by
  refine ⟨hg.os.trans h.os, hg.tape.trans h.tape, hg.output.trans h.output, Nat.le_trans h.size (Nat.le_trans (by simp) hg.size), fun i hi hne => ?_⟩
  rw [hg.block i (by have := h.size; simp; omega) (fun e => by have := (ho.lt i e.symm).1; omega), Below.heap_alloc _ _ _ (Nat.lt_of_lt_of_le hi h.size)]
  exact h.block i hi hne
theorem step_appended0 {w wr w1 : World} {b base : Nat} {v : Value} {e : TypeId} {size n : Nat} {xs : List Value} (h : w.grownBy wr (some b)) (hb : w.heap.size ≤ base) (ho : wr.ownsRow base e size v n xs) (hg : wr.grownBy w1 v.ownBlock) : w.grownBy w1 (some b) := by
  refine ⟨hg.os.trans h.os, hg.tape.trans h.tape, hg.output.trans h.output, Nat.le_trans h.size hg.size, fun i hi hne => ?_⟩
  rw [hg.block i (Nat.lt_of_lt_of_le hi h.size) (fun e => by have := (ho.lt i e.symm).1; omega)]
  exact h.block i hi hne
theorem step_below {w wr w1 : World} {b : Nat} (h : w.grownBy wr (some b)) (hb : Below wr.heap.size wr w1) : w.grownBy w1 (some b) := grown_trans_row h (grown_of_below hb _)
def IntRes (w : World) (b : Nat) (a : Option Addr) (n c : Nat) (xs : List Int) (k : Nat) (en : Ending) (w' : World) : Prop :=
  (∃ r : Int, en = .returned (.int .i64 r)) ∧ Src w' b a n c xs (k + 1) ∧ w.grownBy w' (some b)
theorem l1DrawPoint_any (b : Nat) (a : Option Addr) (n c : Nat) (xs : List Int) (k : Nat) (hk : k < 1000000) (w : World) (h : Src w b a n c xs k) :
    Calls Tryz.prog 182 #[.pointer (some ⟨b, 0, none⟩)] w (IntRes w b a n c xs k) := by
  have hblt := h.lt
  have HS := Lib.hid h
  clear h
  go_enter Tryz.func182, Tryz.ntmps182
  go_wp2_with fail
  refine (l1Pick_any b a n c xs k w.heap.size 20 _ rfl (by decide) (by decide) hk _ (HS.out.alloc _) (lit_row w _ .i64 [97, 98, 60, 38, 32, 34, 233, 8364, 128512, 9, 10, 2047, 2048, 65535, 65536, 1114111, 120, 121, 62, 39] 20 rfl (by decide)) (by omega)).mono ?_
  rintro e w1 ⟨r, rfl, _, hs, hg⟩
  have HS1 := Lib.hid hs
  have HG1 := Lib.hid (grown_trans_row (World.grownBy_alloc w _ (some b)) hg)
  clear hs hg
  go_wp2
  go_ret
  exact ⟨⟨r, rfl⟩, HS1.out, HG1.out⟩
theorem point_of_char {p : Int} (h : charB p = true) : pointB p = true := by
  cases hp : pointB p
  · rw [charB_point p hp] at h
    exact absurd h (by simp)
  · rfl
def TextDrawn (w : World) (b : Nat) (a : Option Addr) (n c : Nat) (xs : List Int) (k m : Nat) (en : Ending) (w' : World) : Prop :=
  ∃ (s : ByteArray) (k' : Nat), en = .returned (.string s) ∧ s.size ≤ 4 * m ∧ k' ≤ k + 1 + m ∧ Src w' b a n c xs k' ∧ w.grownBy w' (some b)
set_option maxHeartbeats 1600000 in
theorem l1DrawText_any (b : Nat) (a : Option Addr) (n c : Nat) (xs : List Int) (k m : Nat) (hm : m ≤ 10000) (hk : k + 1 + m < 1000000) (w : World) (h : Src w b a n c xs k) :
    Calls Tryz.prog 113 #[.pointer (some ⟨b, 0, none⟩), .int .i64 m] w (TextDrawn w b a n c xs k m) := by
  obtain ⟨i0, hi, hz0, hz1, hz2⟩ := info_parts u8Info
  have hblt := h.lt
  have hmi : (m : Int) ≤ 10000 := by omega
  have HS0 := Lib.hid h
  clear h
  go_enter Tryz.func113, Tryz.ntmps113
  go_wp2_with fail
  refine (l1Next_any b a n c xs k ((m : Int) + 1) (by omega) (by omega) (by omega) _ (HS0.out.alloc _)).mono ?_
  rintro e w1 ⟨r0, rfl, hr0, hs1, hg1⟩
  have hr1 := hr0 (by omega)
  have HS1 := Lib.hid hs1
  have HO1 := Lib.hid ((lit_owns w 5 .u8 [] 0 rfl (by decide)).kept hg1 (.inr (by simp [Value.ownBlock]; omega)))
  have HG1 := Lib.hid (grown_trans_row (World.grownBy_alloc w (.cells (([] : List Int).map (Value.int .u8)).toArray 5) (some b)) hg1)
  clear hr0 hs1 hg1
  go_wp2
  go_loopw [5, 6] (fun v q wr => ∃ (r j l : Nat) (a' : Option Addr) (c' : Nat) (ys : List Int), j + r = r0 ∧ l ≤ 4 * j ∧ q = .int .i64 r ∧ v = .slice a' l c' ∧ wr.ownsRow w.heap.size 5 1 (.slice a' l c') l (ys.map (Value.int .u8)) ∧ Src wr b a n c xs (k + 1 + j) ∧ w.grownBy wr (some b)) (fun _ q _ => (intOf q).toNat)
  case atStart => exact ⟨r0, 0, 0, _, _, [], by omega, by omega, rfl, rfl, HO1.out, HS1.out, HG1.out⟩
  case round =>
    obtain ⟨r, j, l, a', c', ys, hjr, hl, rfl, rfl, ho, hs, hg⟩ := hrel
    have HO := Lib.hid ho
    have HS := Lib.hid hs
    have HG := Lib.hid hg
    have hj1 : j ≤ 10000 := by omega
    have hrm : r ≤ 10000 := by omega
    clear ho hs hg
    by_cases hr : 0 < r
    · go_wp2_with fail
      refine (l1DrawPoint_any b a n c xs (k + 1 + j) (by omega) wr HS.out).mono ?_
      rintro e w2 ⟨⟨p, rfl⟩, hs2, hg2⟩
      have HS2 := Lib.hid hs2
      have HO2 := Lib.hid (HO.out.kept hg2 (by
        cases hv : (Value.slice a' l c').ownBlock with
        | none => exact .inl rfl
        | some g => exact .inr (fun e => by have := (HO.out.lt g hv).1; cases e; omega)))
      have HG2 := Lib.hid (grown_trans_row HG.out hg2)
      clear hs2 hg2
      cases hc : charB p
      · go_wp2_with fail
        refine (specIsChar_any p _).mono ?_
        rintro e w3 ⟨rfl, rfl⟩
        go_wp2
        go_roundw
        case rel => exact ⟨r - 1, j + 1, l, a', c', ys, by omega, by omega, by rw [show ((r - 1 : Nat) : Int) = (r : Int) - 1 by omega], rfl, HO2.out, HS2.out, HG2.out⟩
        case measure => simp [intOf]; omega
      · have hp := point_of_char hc
        go_wp2_with fail
        refine (specIsChar_any p _).mono ?_
        rintro e w3 ⟨rfl, rfl⟩
        go_wp2_with fail
        refine (l1Put_any p hp _).mono ?_
        rintro e w4 ⟨a4, n4, c4, rfl, ho4, hb4⟩
        have hn4 := owns_length ho4
        have hle4 := Lib.encodeRuneZ_length p
        have HO3 := Lib.hid (owns_below HO2.out hb4)
        have HS3 := Lib.hid (HS2.out.below hb4)
        have HG3 := Lib.hid (step_below HG2.out hb4)
        have HO4 := Lib.hid ho4
        clear ho4 hb4
        rcases HO4.out.2 with ⟨hv, h0⟩ | ⟨g, cap, cur, hv, _⟩
        · exfalso
          omega
        · simp only [Value.slice.injEq] at hv
          obtain ⟨rfl, _, rfl⟩ := hv
          have HL4 := Lib.hid hle4
          have HN4 := Lib.hid hn4
          clear hle4 hn4
          go_wp2_with (at_builtin; refine wpList_append_own _ rfl _ _ 22 rfl w.heap.size 5 i0 (.int .u8 0) 1 1 Tryz.underlying22 hi hz0 hz1 hz2 rfl (by decide) _ _ _ rfl HO3.out ⟨g, 0, none⟩ n4 c4 ((Lib.encodeRuneZ p).map (Value.int .u8)) rfl ?c1 ?c2 ?c3 ?c4 ?c5 ?c6 ?_)
          case c1 => have := HN4.out; simp; omega
          case c2 => exact HO4.out.cells (g := g) rfl
          case c3 => exact ints_oneCell _ _
          case c4 => have := HN4.out; have := HL4.out; unfold maxLen; omega
          case c5 => have := HN4.out; have := HL4.out; omega
          case c6 => exact HG3.out.size
          intro v' w5 hown' hgrow _
          obtain ⟨a2, c2, rfl⟩ := owns_slice hown'
          have HG5 := Lib.hid (step_appended0 HG3.out (Nat.le_refl _) HO3.out hgrow)
          have HS5 := Lib.hid (HS3.out.grown hgrow (fun g e => by have := (HO3.out.lt g e).1; omega))
          have HO5 := Lib.hid hown'
          clear hown' hgrow
          go_wp2
          go_roundw
          case rel => exact ⟨r - 1, j + 1, l + n4, a2, c2, ys ++ Lib.encodeRuneZ p, by omega, by have := HN4.out; have := HL4.out; omega, by rw [show ((r - 1 : Nat) : Int) = (r : Int) - 1 by omega], rfl, by rw [List.map_append]; exact HO5.out, HS5.out, HG5.out⟩
          case measure => simp [intOf]; omega
    · obtain rfl : r = 0 := by omega
      have hcv := conv_row (P := Tryz.prog) wr Tryz.underlying22 Tryz.underlying5 Tryz.underlying9 (Row.of_owns HO.out)
      have hyl := owns_length HO.out
      have HYL := Lib.hid hyl
      clear hyl
      go_wp2
      go_ret
      exact ⟨strOfNums ys, k + 1 + j, rfl, by rw [strOfNums_size]; have := HYL.out; omega, by omega, HS.out, HG.out⟩
end Go.Proofs.YtcaknhoaoodbfaaGreatDoor
