/- Thousandths of priorities, in plain words. -/
import Derived.Test.YtppgdbejbhhjlaaGreatDoorGF1
import Derived.Test.YtppgdbejbhhjlaaGreatDoorGF10
import Derived.Test.YtppgdbejbhhjlaaGreatDoorGF11
namespace Go.Proofs.YtppgdbejbhhjlaaGreatDoor
open Go.ChangeShapes Go.WideShapes Go.ChangeAt Go.RowKit
set_option linter.unusedVariables false

def thouCode (p : Int) : Int := if inB p 0 127 then 0 else 3
def thouVal (p : Int) : Int := if inB p 0 127 then (1000 * p + 63) / 127 else 0
def prioCode (n : Int) : Int := if inB n 0 1000 then 0 else 3
def prioVal (n : Int) : Int := if inB n 0 1000 then (127 * n + 500) / 1000 else 0
end Go.Proofs.YtppgdbejbhhjlaaGreatDoor

/- The tree of another format, in plain words. -/
namespace Go.Proofs.YtppgdbejbhhjlaaGreatDoor
open Go.ChangeShapes Go.WideShapes Go.ChangeAt Go.RowKit
set_option linter.unusedVariables false

def pidfSp : ByteArray := ⟨#[117, 114, 110, 58, 105, 101, 116, 102, 58, 112, 97, 114, 97, 109, 115, 58, 120, 109, 108, 58, 110, 115, 58, 112, 105, 100, 102]⟩
def rpidSp : ByteArray := ⟨#[117, 114, 110, 58, 105, 101, 116, 102, 58, 112, 97, 114, 97, 109, 115, 58, 120, 109, 108, 58, 110, 115, 58, 112, 105, 100, 102, 58, 114, 112, 105, 100]⟩
def presNm : ByteArray := ⟨#[112, 114, 101, 115, 101, 110, 99, 101]⟩
def entityNm : ByteArray := ⟨#[101, 110, 116, 105, 116, 121]⟩
def presP : ByteArray := ⟨#[112, 114, 101, 115, 58]⟩
def tupleNm : ByteArray := ⟨#[116, 117, 112, 108, 101]⟩
def idNm : ByteArray := ⟨#[105, 100]⟩
def tT : ByteArray := ⟨#[116]⟩
def stNm : ByteArray := ⟨#[115, 116, 97, 116, 117, 115]⟩
def basicNm : ByteArray := ⟨#[98, 97, 115, 105, 99]⟩
def openT : ByteArray := ⟨#[111, 112, 101, 110]⟩
def closedT : ByteArray := ⟨#[99, 108, 111, 115, 101, 100]⟩
def actNm : ByteArray := ⟨#[97, 99, 116, 105, 118, 105, 116, 105, 101, 115]⟩
def awayNm : ByteArray := ⟨#[97, 119, 97, 121]⟩
def busyNm : ByteArray := ⟨#[98, 117, 115, 121]⟩
def contNm : ByteArray := ⟨#[99, 111, 110, 116, 97, 99, 116]⟩
def prioKey : ByteArray := ⟨#[112, 114, 105, 111, 114, 105, 116, 121]⟩
def xmppP : ByteArray := ⟨#[120, 109, 112, 112, 58]⟩
def noteNm : ByteArray := ⟨#[110, 111, 116, 101]⟩
def elemI (d : Int) (sp nm : ByteArray) (es : List At) : It := ⟨d, ⟨#[]⟩, sp, nm, es⟩
def textI (d : Int) (t : ByteArray) : It := ⟨d, t, ⟨#[]⟩, ⟨#[]⟩, []⟩
def basicW (k : Int) : ByteArray := if k = 1 then closedT else openT
def actW (s : Int) : ByteArray := if s = 3 then busyNm else awayNm
def rootP8 (f : ByteArray) : It := elemI 0 pidfSp presNm [⟨entityNm, presP ++ f⟩]
def headP8 (f : ByteArray) (k : Int) : List It := [rootP8 f, elemI 1 pidfSp tupleNm [⟨idNm, tT⟩], elemI 2 pidfSp stNm [], elemI 3 pidfSp basicNm [], textI 4 (basicW k)]
def actsP8 (s : Int) : List It := if s = 0 then [] else [elemI 2 rpidSp actNm [], elemI 3 rpidSp (actW s) []]
def contP8 (f : ByteArray) (p : Int) : List It := if p = 0 then [] else [elemI 2 pidfSp contNm [⟨prioKey, shareText (thouVal p)⟩], textI 3 (xmppP ++ f)]
def noteP8 (u : ByteArray) : List It := if u.toList.isEmpty then [] else [elemI 2 pidfSp noteNm [], textI 3 u]
/-- the tree of a presence that is its own projection -/
def pidfL (q : Pr) : List It := ((headP8 q.sender q.kind ++ actsP8 q.shown) ++ contP8 q.sender q.prio) ++ noteP8 q.status
def pidfT (p : Pr) : List It := if projCode p = 0 then pidfL (proj p) else []
theorem pidf_few (p : Pr) : ∀ x ∈ pidfT p, x.attrs.length ≤ 1 := by
  intro x hx
  unfold pidfT at hx
  split at hx
  · unfold pidfL at hx
    rw [List.mem_append, List.mem_append, List.mem_append] at hx
    rcases hx with ((hx | hx) | hx) | hx
    · unfold headP8 at hx
      simp only [List.mem_cons, List.not_mem_nil, or_false] at hx
      rcases hx with rfl | rfl | rfl | rfl | rfl <;> first | exact Nat.le_refl 1 | exact Nat.zero_le 1
    · unfold actsP8 at hx
      split at hx
      · cases hx
      · simp only [List.mem_cons, List.not_mem_nil, or_false] at hx
        rcases hx with rfl | rfl <;> first | exact Nat.le_refl 1 | exact Nat.zero_le 1
    · unfold contP8 at hx
      split at hx
      · cases hx
      · simp only [List.mem_cons, List.not_mem_nil, or_false] at hx
        rcases hx with rfl | rfl <;> first | exact Nat.le_refl 1 | exact Nat.zero_le 1
    · unfold noteP8 at hx
      split at hx
      · cases hx
      · simp only [List.mem_cons, List.not_mem_nil, or_false] at hx
        rcases hx with rfl | rfl <;> first | exact Nat.le_refl 1 | exact Nat.zero_le 1
  · cases hx
end Go.Proofs.YtppgdbejbhhjlaaGreatDoor
