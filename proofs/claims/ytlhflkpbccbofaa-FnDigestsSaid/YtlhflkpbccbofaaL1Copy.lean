/- The model's l1Copy, and slices.Clone at bytes. -/
import Derived.Test.YtlhflkpbccbofaaCode
import Derived.Laws.AppendOwnNone
import Derived.Maps.AppendAt
namespace Go.Proofs.Ytlhflkpbccbofaa
open Go.ChangeShapes Go.WideShapes Go.ChangeAt Go.RowKit
set_option linter.unusedVariables false

theorem cpInfo : (Try.prog.info? 5).map (fun i => (i.zero, i.size, i.bytes)) = some (some (.int .u8 0), 1, 1) := by kernel_rfl
theorem owns_nilcap {w : World} {B e size n : Nat} {a : Option Addr} {c : Nat} {xs : List Value} (h : w.ownsRow B e size (.slice a n c) n xs) : a = none → c = 0 := by
  intro ha
  rcases h.2 with ⟨hv, _⟩ | ⟨g, cap, cur, hv, _⟩
  · simp only [Value.slice.injEq] at hv
    exact hv.2.2
  · simp only [Value.slice.injEq] at hv
    rw [ha] at hv
    cases hv.1
theorem InRow.flat {w : World} {ad : Addr} {n c : Nat} {xs : List Int} (h : InRow w (some ad) n c xs) : ∀ j u, (xs.map (Value.int .u8))[j]? = some u → w.cell? (ad.add j) = some u := by
  intro j u hj
  have hlt : j < xs.length := by
    rcases Nat.lt_or_ge j xs.length with h1 | h1
    · exact h1
    · rw [List.getElem?_eq_none (by simpa using h1)] at hj; cases hj
  rcases h.row with e | ⟨rb, ro, ha, hr, hc⟩
  · have := h.len; omega
  · simp only [Option.some.injEq] at ha
    subst ha
    rw [Addr.add_lit]
    rw [List.getElem?_map, List.getElem?_eq_getElem hlt] at hj
    simp only [Option.map_some, Option.some.injEq] at hj
    rw [hc j (by have := h.len; omega), ← hj, List.getD_eq_getElem?_getD, List.getElem?_eq_getElem hlt]
    rfl
theorem oneI (xs : List Int) : ∀ u ∈ xs.map (Value.int .u8), u.oneCell' = true := by
  intro u hu
  obtain ⟨x, _, rfl⟩ := List.mem_map.1 hu
  rfl
theorem in_below {w w' : World} {a : Option Addr} {n c : Nat} {xs : List Int} (h : InRow w a n c xs) (hb : Below w.heap.size w w') : InRow w' a n c xs := by
  refine ⟨h.max, h.len, h.byte, ?_⟩
  rcases h.row with e | ⟨rb, ro, ha, hr, hc⟩
  · exact .inl e
  · exact .inr ⟨rb, ro, ha, Nat.lt_of_lt_of_le hr hb.size, fun i hi => (hb.cell (p := ⟨rb, ro + i, none⟩) hr).trans (hc i hi)⟩

set_option maxRecDepth 100000 in
set_option maxHeartbeats 1600000 in
theorem l1Copy_any (a : Option Addr) (n c : Nat) (xs : List Int) (w : World) (hn : n ≤ 1048576) (hnil : a = none → c = 0) (h : InRow w a n c xs) :
    Calls Try.prog 44 #[.slice a n c] w (OwnsRes w 5 .u8 xs) := by
  obtain ⟨i0, hi, hz0, hz1, hz2⟩ := info_parts cpInfo
  have HL := Lib.hid h.len
  have HIN := Lib.hid (in_below h (below1 w (.cells #[] 5)))
  have hl0 : (w.alloc (.cells #[] 5)).ownsRow w.heap.size 5 1 (.slice (some ⟨w.heap.size, 0, none⟩) 0 0) 0 [] := by
    simpa using lit_owns w 5 .u8 [] 0 rfl (by decide)
  unfold OwnsRes
  cases a with
  | none =>
    obtain rfl : n = 0 := by
      rcases h.row with e | ⟨b5, o5, e5, _⟩
      · exact e
      · cases e5
    obtain rfl : c = 0 := hnil rfl
    obtain rfl : xs = [] := List.length_eq_zero_iff.1 HL.out
    clear hnil h HL HIN
    go_enter Try.func44, Try.ntmps44
    go_wp2_with (at_builtin; refine wpList_append_own_none rfl _ _ 22 rfl w.heap.size 5 i0 1 Try.underlying22 hi _ 0 [] rfl hl0 rfl ?_)
    go_ret
    exact ⟨_, _, _, rfl, by simpa using hl0, below1 _ _⟩
  | some ad =>
    clear hnil h
    go_enter Try.func44, Try.ntmps44
    go_wp2_with (at_builtin; refine wpList_append_own _ rfl _ _ 22 rfl w.heap.size 5 i0 (.int .u8 0) 1 1 Try.underlying22 hi hz0 hz1 hz2 rfl (by decide) _ 0 [] rfl hl0 ad n c (xs.map (Value.int .u8)) rfl ?c6 HIN.out.flat (oneI xs) ?c3 ?c4 ?c5 ?_)
    case c6 => rw [List.length_map, HL.out]; omega
    case c3 => unfold maxLen; omega
    case c4 => omega
    case c5 => simp
    intro v' w1 hown hgrow _
    obtain ⟨a', c', rfl⟩ := owns_slice hown
    have HOWN := Lib.hid hown
    have HB := Lib.hid ((below1 w (.cells #[] 5)).grown hgrow (by simp) (fun j hj => by simp [Value.ownBlock] at hj; omega))
    clear hown hgrow hl0
    go_wp2
    go_ret
    exact ⟨_, _, _, rfl, by simpa using HOWN.out, HB.out⟩
end Go.Proofs.Ytlhflkpbccbofaa
